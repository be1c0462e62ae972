import Derived.Test.YtkibigbcdlilkaaGreatDoorGBY
import Derived.Test.YtkibigbcdlilkaaGreatDoorInAY
import Derived.Test.YtkibigbcdlilkaaGreatDoorSxGY
namespace Go.Proofs.YtkibigbcdlilkaaGreatDoor
open Go.RowKit Go.Shelf
attribute [local go_sem] Oper.semAt_some run_store_func
set_option maxRecDepth 100000 in
set_option maxHeartbeats 1000000 in
theorem WRLong_no (k : Int) (h : k < 2 ∨ 800 < k) (w : World) : Calls Tryz.prog 26 #[.int .i64 k] w fun e w' => e = .returned (.int .i64 (-1)) ∧ w = w' := by
 by_cases h1 : k < 2
 · clear h
   go_enter Tryz.func26, Tryz.ntmps26
   go_wp2
   go_ret
   exact ⟨rfl, rfl⟩
 · have h2 : ¬ k < 2 := h1
   have h3 : 800 < k := by omega
   clear h h1
   go_enter Tryz.func26, Tryz.ntmps26
   go_wp2
   go_ret
   exact ⟨rfl, rfl⟩
set_option maxRecDepth 100000 in
set_option maxHeartbeats 1000000 in
theorem WRLong_yes (n : Nat) (h2 : 2 ≤ n) (h8 : n ≤ 800) (w : World) : Calls Tryz.prog 26 #[.int .i64 n] w fun e w' => e = .returned (.int .i64 (wlongN n : Nat)) ∧ w = w' := by
 have hL := rLong_yes n h2 (by omega) w
 have hl : longN n ≤ 1000 := by
  have := tb_le n (by omega)
  have := wb_le n (by omega)
  unfold longN zb
  omega
 have hf := long_facts n (longN n) h8 hl
 have d1 : ¬ (n : Int) < 2 := by omega
 have d2 : ¬ (800 : Int) < (n : Int) := by omega
 have d3 : decide ((n : Int) < 2) = false := decide_eq_false d1
 have d4 : decide ((800 : Int) < (n : Int)) = false := decide_eq_false d2
 have d5 : ¬ n < 2 := by omega
 have d6 : ¬ 800 < n := by omega
 unfold wlongN
 generalize longN n = L at *
 have HF := Lib.hid hf
 clear hf hl h2 h8
 obtain ⟨⟨a1, a2⟩, ⟨b1, b2⟩, c1, c2⟩ := HF.out
 go_enter Tryz.func26, Tryz.ntmps26
 go_wp2_with fail
 go_at_call 43
 refine hL.mono ?_
 rintro e w2 ⟨rfl, rfl⟩
 go_wp2_with fail
 go_ret
 exact ⟨rfl, rfl⟩
theorem acgt_at : ∀ k, k < 4 → ∀ w, (Instr.index 9 (.string ⟨#[65, 67, 71, 84]⟩) (.int .i64 (k : Nat))).run Tryz.prog w = .ok (eB (letterOf (k : Int))) w := by
 intro k hk w
 rcases (show k = 0 ∨ k = 1 ∨ k = 2 ∨ k = 3 by omega) with rfl | rfl | rfl | rfl <;> kernel_rfl
set_option maxRecDepth 100000 in
set_option maxHeartbeats 2000000 in
theorem WRJunction_any (a b : UInt8) (w : World) : Calls Tryz.prog 33 #[eB a, eB b] w fun e w' => e = .returned (eB (letterOf (jN a b : Nat))) ∧ w = w' := by
 have hj := jN_le a b
 go_enter Tryz.func33, Tryz.ntmps33
 go_wp2_with fail
 go_loopw [6] (fun t wr => ∃ k : Nat, k ≤ jN a b ∧ t = .int .i64 k ∧ wr = w) (fun t _ => jN a b + 1 - (intOf t).toNat)
 case atStart => exact ⟨0, Nat.zero_le _, rfl, rfl⟩
 case round =>
  obtain ⟨k, hk, rfl, rfl⟩ := hrel
  have hix := acgt_at k (by omega)
  have hk4 : (k : Int) < 4 := by omega
  have hk9 : k ≤ 2 := by omega
  by_cases hlt : k < jN a b
  · have hh := jN_hit a b k hlt
    have Hk := Lib.hid hlt
    generalize letterOf (k : Int) = l at *
    by_cases ha : l = a
    · have f1 : ((l.toNat : Int) != (a.toNat : Int)) = false := by rw [ha]; simp
      clear hh hk hlt hj ha
      go_wp2_with fail
      go_roundw
      case rel => exact ⟨k + 1, Hk.out, by go_num, trivial⟩
      case measure => have := Hk.out; simp [intOf]; omega
    · have hb : l = b := hh.resolve_left ha
      have f1 : ((l.toNat : Int) != (a.toNat : Int)) = true := by rw [bne_iff_ne]; exact u8_neR _ _ ha
      have f2 : ((l.toNat : Int) != (b.toNat : Int)) = false := by rw [hb]; simp
      clear hh hk hlt hj ha hb
      go_wp2_with fail
      go_roundw
      case rel => exact ⟨k + 1, Hk.out, by go_num, trivial⟩
      case measure => have := Hk.out; simp [intOf]; omega
  · have hkj : k = jN a b := by omega
    have hf := jN_free a b
    rw [← hkj] at hf
    have Hkj := Lib.hid hkj
    obtain ⟨l, hl⟩ : ∃ l, letterOf (k : Int) = l := ⟨_, rfl⟩
    rw [hl] at hix hf
    have Hl := Lib.hid hl
    have f1 : ((l.toNat : Int) != (a.toNat : Int)) = true := by rw [bne_iff_ne]; exact u8_neR _ _ hf.1
    have f2 : ((l.toNat : Int) != (b.toNat : Int)) = true := by rw [bne_iff_ne]; exact u8_neR _ _ hf.2
    clear hk hlt hj hf hl hkj
    go_wp2_with fail
    go_ret
    exact ⟨by rw [← Hkj.out, Hl.out]; rfl, rfl⟩
theorem neg_len (n : Nat) : ¬ ((n : Nat) : Int) < 0 := by omega
abbrev RFieldIs (x : List UInt8) (w : World) : Ending → World → Prop := fun e w' => Below w.heap.size w w' ∧
  ((∃ f v, wfG x = .ok f ∧ e = .returned (.tuple #[v, .int .i64 0]) ∧ Sl eB w'.heap.size w' v f) ∨ ∃ m, wfG x = .error m ∧ e = .returned (.tuple #[.slice none 0 0, .int .i64 m]))
set_option maxRecDepth 100000 in
set_option maxHeartbeats 2000000 in
theorem WRField_len (sv : Value) (x : List UInt8) (h : ¬ (2 ≤ x.length ∧ x.length ≤ 800)) (w : World) (hS : Sl eB w.heap.size w sv x) :
    Calls Tryz.prog 32 #[sv] w (RFieldIs x w) := by
  have hm := WRLong_no x.length (by omega) w
  have hG := Lib.hid (show wfG x = .error 2 by unfold wfG; rw [if_neg h])
  obtain ⟨A, c, rfl⟩ := hS.len
  clear h
  go_enter Tryz.func32, Tryz.ntmps32
  go_wp2_with fail
  go_at_call 26
  refine hm.mono ?_
  rintro e w' ⟨rfl, rfl⟩
  go_wp2_with fail
  go_ret2
  exact ⟨Below.refl _ _, .inr ⟨2, hG.out, rfl⟩⟩
set_option maxRecDepth 100000 in
set_option maxHeartbeats 2000000 in
theorem WRField_err (sv : Value) (x : List UInt8) (m : Int) (h : 2 ≤ x.length ∧ x.length ≤ 800) (hs : sumsG x = .error m) (w : World) (hS : Sl eB w.heap.size w sv x) :
    Calls Tryz.prog 32 #[sv] w (RFieldIs x w) := by
  have hm := WRLong_yes x.length h.1 h.2 w
  have hn := neg_len (wlongN x.length)
  have hG := Lib.hid (show wfG x = .error m by unfold wfG; rw [if_pos h, hs])
  have hm0 : (m != 0) = true := by rw [bne_iff_ne]; have := sums_err hs; omega
  have hO := rOf_any sv x (by omega) w hS
  obtain ⟨A, c, rfl⟩ := hS.len
  have Hs := Lib.hid hs
  generalize wlongN x.length = L at *
  clear h hs
  go_enter Tryz.func32, Tryz.ntmps32
  go_wp2_with fail
  go_at_call 26
  refine hm.mono ?_
  rintro e w' ⟨rfl, rfl⟩
  go_wp2_with fail
  go_at_call 45
  refine hO.mono ?_
  rintro e w1 ⟨hB, ⟨a, b, d, hg, rfl⟩ | ⟨k, hg, rfl⟩⟩
  · rw [Hs.out] at hg; cases hg
  · rw [Hs.out] at hg
    injection hg with hg
    subst hg
    go_wp2_with fail
    go_ret2
    exact ⟨below_trans hB (below_alloc _ _), .inr ⟨m, hG.out, rfl⟩⟩
set_option maxRecDepth 100000 in
set_option maxHeartbeats 2000000 in
theorem WRField_ok (sv : Value) (x : List UInt8) (a b d : Int) (h : 2 ≤ x.length ∧ x.length ≤ 800) (hs : sumsG x = .ok (a, b, d)) (w : World) (hS : Sl eB w.heap.size w sv x) :
    Calls Tryz.prog 32 #[sv] w (RFieldIs x w) := by
  have hm := WRLong_yes x.length h.1 h.2 w
  have hn := neg_len (wlongN x.length)
  have hG := Lib.hid (show wfG x = .ok (fldL x a b d) by unfold wfG; rw [if_pos h, hs])
  have hO := rOf_any sv x (by omega) w hS
  obtain ⟨hr, -, -⟩ := sums_right hs
  obtain ⟨a', b', d', n', e1, e2, e3, e4, -, -, ha, hb, hd⟩ := rightB_nat hr
  obtain rfl : n' = x.length := by omega
  subst e1 e2 e3
  have hP := fun w => rPack_yes a' b' d' x.length h.1 (by omega) ha hb hd hr w
  have hbits := pack_bits a' b' d' x.length
  have hL : (packL a' b' d' x.length).length ≤ 100000 := by
   rw [packL_length]
   have := tb_le x.length (by omega)
   have := wb_le x.length (by omega)
   unfold longN zb
   omega
  have hF := fun v w h => RField_any v (packL a' b' d' x.length) hL w h
  unfold fldL at hG
  simp only [Int.toNat_natCast] at hG
  obtain ⟨A, c, rfl⟩ := hS.len
  have Hs := Lib.hid hs
  have Hbits := Lib.hid hbits
  generalize packL a' b' d' x.length = PL at *
  generalize wlongN x.length = L at *
  clear h hs hr hbits hL ha hb hd e4
  go_enter Tryz.func32, Tryz.ntmps32
  go_wp2_with fail
  go_at_call 26
  refine hm.mono ?_
  rintro e w' ⟨rfl, rfl⟩
  go_wp2_with fail
  go_at_call 45
  refine hO.mono ?_
  rintro e w1 ⟨hB, ⟨a2, b2, d2, hg, rfl⟩ | ⟨k, hg, rfl⟩⟩
  · rw [Hs.out] at hg
    injection hg with hg
    injection hg with e1 hg
    injection hg with e2 e3
    subst e1 e2 e3
    have hA1 := below_alloc w1 (.cells (c3 a' b' d') 51)
    have hr8 := Rowed.new w1 51 (c3 a' b' d')
    have hB1 := below_trans hB hA1
    clear hO hm hA1 hB
    go_upto_region 4 with fail
    generalize w1.alloc (.cells (c3 a' b' d') 51) = w2 at *
    generalize w1.heap.size = g at *
    go_wp2_with (refine wpList_load_row rfl 51 (.tmp 4) rfl g rfl _ (c3 a' b' d') _ _ hr8 Tryz.underlying51 rfl (size_c3 a' b' d') ?_)
    go_at_call 55
    refine (hP _).mono ?_
    clear hP
    rintro e w3 ⟨v, rfl, hB3, hv⟩
    have hB4 := below_trans hB1 hB3
    obtain ⟨Av, cv, rfl⟩ := hv.len
    clear hB1 hB3 hr8
    go_wp2_with fail
    go_at_call 56
    refine (hF _ _ hv).mono ?_
    clear hF
    rintro e w5 ⟨hB5, ⟨v5, rfl, -, hv5⟩ | ⟨-, hno⟩⟩
    · obtain ⟨Af, cf, rfl⟩ := hv5.len
      clear hv
      go_wp2_with fail
      go_ret2
      exact ⟨below_trans hB4 hB5, .inl ⟨_, _, hG.out, rfl, hv5⟩⟩
    · exact absurd Hbits.out hno
  · rw [Hs.out] at hg; cases hg
theorem WRField_any (sv : Value) (x : List UInt8) (w : World) (hS : Sl eB w.heap.size w sv x) : Calls Tryz.prog 32 #[sv] w (RFieldIs x w) := by
 by_cases h : 2 ≤ x.length ∧ x.length ≤ 800
 · cases hs : sumsG x with
   | error m => exact WRField_err sv x m h hs w hS
   | ok s => obtain ⟨a, b, d⟩ := s; exact WRField_ok sv x a b d h hs w hS
 · exact WRField_len sv x h w hS
end Go.Proofs.YtkibigbcdlilkaaGreatDoor
namespace Go.Proofs.YtkibigbcdlilkaaGreatDoor
open Go.RowKit Go.Shelf
attribute [local go_sem] Oper.semAt_some run_store_func
theorem gh_put {P : Program} {md : Region.Mode} {ops : Array Oper} {S : (Nat → Bool) → (Nat → Value) → World → Prop} {A : (Nat → Value) → Act} {i : Nat} {o : Oper} {s : Tmp} (hi : ops[i]? = some o) (hd : o.dst = some s)
    (hA : ∀ g v, A (fun j => if j = i then v else g j) = (A g).put (some s) v)
    (hrun : ∀ D g w, D i = false → (o.after.all fun e => !Region.binds md e || D e.on) = true → S D g w →
      if Region.wanted o (yielded ops (A g).tmps) = true then o.wp P (A g) w (fun a' w' => ∃ v, a' = (A g).put (some s) v ∧ S (upd D i) (fun j => if j = i then v else g j) w') (fun _ _ _ => False) else False) : GhOk P md ops S A i o := by
 intro D g w hD hdep hS
 have h := hrun D g w hD hdep hS
 split
 · rename_i hw
   rw [if_pos hw] at h
   refine Oper.wp_mono (fun a' w' ⟨v, e, hS'⟩ => ?_) h
   refine ⟨fun j => if j = i then v else g j, ?_, ?_, ?_, hS'⟩
   · rw [hA, e]
   · intro s' _
     rw [e, hA]
   · intro s' hs'
     rw [hA]
     have hne : s ≠ s' := by
      rintro rfl
      have := hs' i o hi hd
      rw [hD] at this
      cases this
     simp only [Act.put]
     rw [Array.getElem?_setIfInBounds_ne hne]
 · rename_i hw
   rw [if_neg hw] at h
   exact h.elim
def MkS (N : Nat) (w1 : World) (x : List UInt8) (j : UInt8) (D : Nat → Bool) (g : Nat → Value) (w : World) : Prop :=
 Below N w1 w ∧ (D 0 = true → D 2 = false → ∃ p, g 0 = .slice (some ⟨p, 0, none⟩) 0 0 ∧ N ≤ p ∧ Rowed w p 5 #[]) ∧ (D 2 = true → D 14 = false → w.ownsRow N 5 1 (g 2) x.length (x.map eB)) ∧
   (D 13 = true → D 14 = false → ∃ q, g 13 = .slice (some ⟨q, 0, none⟩) 1 1 ∧ Rowed w q 5 #[eB j]) ∧ (D 14 = true → w.ownsRow N 5 1 (g 14) (x.length + 1) ((x ++ [j]).map eB)) ∧ (D 15 = true → g 15 = g 14) ∧
   (D 2 = true → D 0 = true) ∧ (D 14 = true → D 2 = true ∧ D 13 = true) ∧ (D 15 = true → D 14 = true)
theorem MkS.keep {N : Nat} {w1 : World} {x : List UInt8} {j : UInt8} {D : Nat → Bool} {g : Nat → Value} {w : World} {i : Nat} (h : MkS N w1 x j D g w) (h0 : i ≠ 0) (h2 : i ≠ 2) (h13 : i ≠ 13) (h14 : i ≠ 14) (h15 : i ≠ 15) : MkS N w1 x j (upd D i) g w := by
 unfold MkS
 rw [upd_other D (Ne.symm h0), upd_other D (Ne.symm h2), upd_other D (Ne.symm h13), upd_other D (Ne.symm h14), upd_other D (Ne.symm h15)]
 exact h
theorem MkS.end {N : Nat} {w1 : World} {x : List UInt8} {j : UInt8} {D : Nat → Bool} {g : Nat → Value} {w : World} (h : MkS N w1 x j D g w) (h15 : D 15 = true) : Below N w1 w ∧ w.ownsRow N 5 1 (g 15) (x.length + 1) ((x ++ [j]).map eB) := by
 obtain ⟨a, -, -, -, e, f, -, -, k⟩ := h
 exact ⟨a, by rw [f h15]; exact e (k h15)⟩
theorem below_drew_w'' (w : World) : Below w.heap.size w w.drew := ⟨rfl, rfl, rfl, Nat.le_refl _, fun _ _ => rfl⟩
theorem bool_no {b : Bool} (h : b = true → False) : b = false := by cases b <;> first | rfl | exact (h rfl).elim
section
variable {N : Nat} {w1 : World} {x : List UInt8} {j : UInt8} {D : Nat → Bool} {g : Nat → Value} {w : World}
theorem MkS.op0 (h : MkS N w1 x j D g w) (hD : D 0 = false) (hN : N ≤ w1.heap.size) : MkS N w1 x j (upd D 0) (fun k => if k = 0 then .slice (some ⟨w.heap.size, 0, none⟩) 0 0 else g k) (w.alloc (.cells #[] 5)) := by
 obtain ⟨a, b, c, d, e, f, p, q, r⟩ := h
 have n2 : D 2 = false := bool_no fun h => by rw [p h] at hD; cases hD
 have n14 : D 14 = false := bool_no fun h => by rw [(q h).1] at n2; cases n2
 have n15 : D 15 = false := bool_no fun h => by rw [r h] at n14; cases n14
 have hs := a.size
 unfold MkS
 rw [upd_same, upd_other D (show 2 ≠ 0 by decide), upd_other D (show 13 ≠ 0 by decide), upd_other D (show 14 ≠ 0 by decide), upd_other D (show 15 ≠ 0 by decide), n2, n14, n15]
 refine ⟨a.alloc (by omega) _, fun _ _ => ⟨w.heap.size, rfl, by omega, Rowed.new w 5 #[]⟩, ?_, fun h _ => ?_, ?_, ?_, fun _ => rfl, ?_, ?_⟩
 · intro h; cases h
 · obtain ⟨t, h1, h2⟩ := d h n14
   exact ⟨t, h1, h2.alloc _⟩
 all_goals (intro h; cases h)
theorem MkS.op2 (h : MkS N w1 x j D g w) (hD : D 2 = false) (h0 : D 0 = true) {p : Nat} (hp : N ≤ p) (hr : Rowed w p 5 #[]) {v' : Value} {w' : World} (hown : w'.ownsRow N 5 1 v' x.length (x.map eB)) (hg : w.grownBy w' (some p)) (hN : N ≤ w1.heap.size) : MkS N w1 x j (upd D 2) (fun k => if k = 2 then v' else g k) w' := by
 obtain ⟨a, b, c, d, e, f, p', q, r⟩ := h
 have n14 : D 14 = false := bool_no fun h => by rw [(q h).1] at hD; cases hD
 have n15 : D 15 = false := bool_no fun h => by rw [r h] at n14; cases n14
 have hs := a.size
 unfold MkS
 rw [upd_same, upd_other D (show 0 ≠ 2 by decide), upd_other D (show 13 ≠ 2 by decide), upd_other D (show 14 ≠ 2 by decide), upd_other D (show 15 ≠ 2 by decide), n14, n15]
 refine ⟨a.grown hg (by omega) (fun k e => by cases e; exact hp), ?_, fun _ _ => hown, fun h _ => ?_, ?_, ?_, fun _ => h0, ?_, ?_⟩
 · intro _ h; cases h
 · obtain ⟨t, h1, h2⟩ := d h n14
   refine ⟨t, h1, (hg.block t (Rowed.lt h2) (fun e => ?_)).trans h2⟩
   cases e
   have := h2.symm.trans hr
   cases this
 all_goals (intro h; cases h)
theorem MkS.op13 (h : MkS N w1 x j D g w) (hD : D 13 = false) (hN : N ≤ w1.heap.size) : MkS N w1 x j (upd D 13) (fun k => if k = 13 then .slice (some ⟨w.heap.size, 0, none⟩) 1 1 else g k) (w.alloc (.cells #[eB j] 5)) := by
 obtain ⟨a, b, c, d, e, f, p, q, r⟩ := h
 have n14 : D 14 = false := bool_no fun h => by rw [(q h).2] at hD; cases hD
 have n15 : D 15 = false := bool_no fun h => by rw [r h] at n14; cases n14
 have hs := a.size
 unfold MkS
 rw [upd_same, upd_other D (show 0 ≠ 13 by decide), upd_other D (show 2 ≠ 13 by decide), upd_other D (show 14 ≠ 13 by decide), upd_other D (show 15 ≠ 13 by decide), n14, n15]
 refine ⟨a.alloc (by omega) _, fun h1 h2 => ?_, fun h1 _ => (c h1 n14).alloc _, fun _ _ => ⟨w.heap.size, rfl, Rowed.new w 5 #[eB j]⟩, ?_, ?_, p, ?_, ?_⟩
 · obtain ⟨t, k1, k2, k3⟩ := b h1 h2
   exact ⟨t, k1, k2, k3.alloc _⟩
 all_goals (intro h; cases h)
theorem MkS.op14 (h : MkS N w1 x j D g w) (hD : D 14 = false) (h2 : D 2 = true) (h13 : D 13 = true) {v' : Value} {w' : World} (hown : w'.ownsRow N 5 1 v' (x.length + 1) ((x ++ [j]).map eB)) (hB : Below N w w') : MkS N w1 x j (upd D 14) (fun k => if k = 14 then v' else g k) w' := by
 obtain ⟨a, b, c, d, e, f, p, q, r⟩ := h
 have n15 : D 15 = false := bool_no fun h => by rw [r h] at hD; cases hD
 unfold MkS
 rw [upd_same, upd_other D (show 0 ≠ 14 by decide), upd_other D (show 2 ≠ 14 by decide), upd_other D (show 13 ≠ 14 by decide), upd_other D (show 15 ≠ 14 by decide), n15, h2, h13]
 refine ⟨a.trans hB, ?_, ?_, ?_, fun _ => hown, ?_, fun _ => p h2, fun _ => ⟨rfl, rfl⟩, ?_⟩
 · intro _ h; cases h
 · intro _ h; cases h
 · intro _ h; cases h
 all_goals (intro h; cases h)
theorem MkS.op15 (h : MkS N w1 x j D g w) (_hD : D 15 = false) (h14 : D 14 = true) : MkS N w1 x j (upd D 15) (fun k => if k = 15 then g 14 else g k) w := by
 obtain ⟨a, b, c, d, e, f, p, q, r⟩ := h
 unfold MkS
 rw [upd_same, upd_other D (show 0 ≠ 15 by decide), upd_other D (show 2 ≠ 15 by decide), upd_other D (show 13 ≠ 15 by decide), upd_other D (show 14 ≠ 15 by decide)]
 exact ⟨a, b, c, d, e, fun _ => rfl, p, q, fun _ => h14⟩
end
set_option maxRecDepth 100000 in
set_option maxHeartbeats 4000000 in
theorem WRMake_ok (sv : Value) (x : List UInt8) (f : List UInt8) (hf : wfG x = .ok f) (w : World) (hS : Sl eB w.heap.size w sv x) :
    Calls Tryz.prog 17 #[sv] w fun e w' => Below w.heap.size w w' ∧ ∃ v, e = .returned (.tuple #[v, .int .i64 0]) ∧ Sl eB w'.heap.size w' v (wordL x f) := by
  obtain ⟨i0, hi, hz0, hz1, hz2⟩ := info_parts info_u8
  have hF := WRField_any sv x w hS
  obtain ⟨⟨hx2, hx8⟩, hfl, hf2, -⟩ := wfG_ok hf
  have hJ := fun w => WRJunction_any (atB x (x.length - 1)) (atB f 0) w
  have hju : letterOf (jN (atB x (x.length - 1)) (atB f 0) : Nat) = juncL x f := rfl
  rw [hju] at hJ
  have hW : wordL x f = (x ++ [juncL x f]) ++ (f ++ f ++ f) := rfl
  have HW := Lib.hid hW
  have hfle : f.length ≤ 1000 := by
   rw [hfl]
   have := tb_le x.length (by omega)
   have := wb_le x.length (by omega)
   unfold longN zb
   omega
  obtain ⟨A, c, rfl, hc, hcs⟩ := id hS
  obtain ⟨bx, ox, rfl, hbx, hxc⟩ := hcs (by omega)
  have hxl := hxc (x.length - 1) _ (atB_lt (by omega))
  have Hf := Lib.hid hf
  have HN := Lib.hid (And.intro hx2 (And.intro hx8 (And.intro hf2 hfle)))
  have hj1 : IntKind.i64.wrap ((x.length : Int) - 1) = ((x.length - 1 : Nat) : Int) := by rw [IntWalk.i64_in _ (by omega)]; omega
  have hjx : ((x.length - 1 : Nat) : Int) < (x.length : Int) := by omega
  have hjx2 : x.length - 1 < x.length := by omega
  have hfx : (0 : Int) < (f.length : Int) := by omega
  have hfx2 : 0 < f.length := by omega
  clear hf hfl hju hW hcs hxc hc hx2 hx8 hf2 hfle
  go_enter Tryz.func17, Tryz.ntmps17
  go_wp2_with fail
  go_at_call 32
  refine hF.mono ?_
  clear hF
  rintro e w1 ⟨hB1, ⟨f', v, hf', rfl, hv⟩ | ⟨m, hm, -⟩⟩
  case inr => rw [Hf.out] at hm; cases hm
  rw [Hf.out] at hf'
  cases hf'
  obtain ⟨Af, cf, rfl, hcf, hfs⟩ := id hv
  obtain ⟨bf, of, rfl, hbf, hfc⟩ := hfs hfx2
  have hf0 := hfc 0 _ (atB_lt hfx2)
  rw [Nat.add_zero] at hf0
  have hS1 := hS.next hB1
  have hx1 := (hB1.cell (p := ⟨bx, ox + (x.length - 1), none⟩) hbx).trans hxl
  have hbx1 : bx < w1.heap.size := Nat.lt_of_lt_of_le hbx hB1.size
  clear hS hfs hfc hcf hxl
  go_wp2_with fail
  obtain ⟨j, hjd⟩ : ∃ j, juncL x f = j := ⟨_, rfl⟩
  have Hjd := Lib.hid hjd
  rw [hjd] at hJ
  clear hjd
  generalize atB x (x.length - 1) = lx at *
  generalize atB f 0 = lf at *
  refine wp_region_ghost (MkS w1.heap.size w1.drew x j) (fun g => [(16, g 0), (17, .slice (some ⟨bx, ox, none⟩) x.length c), (18, g 2), (19, .slice (some ⟨bx, ox, none⟩) x.length c), (20, .slice (some ⟨bx, ox, none⟩) x.length c), (21, .int .i64 x.length), (22, .int .i64 (x.length - 1 : Nat)), (23, .pointer (some ⟨bx, ox + (x.length - 1), none⟩)), (24, eB lx),
   (25, .slice (some ⟨bf, of, none⟩) f.length cf), (26, .pointer (some ⟨bf, of, none⟩)), (27, eB lf), (28, eB j), (29, g 13), (30, g 14), (6, g 15)]) (fun _ => undef)
   (by kernel_rfl) (by kernel_rfl) (by kernel_rfl) (by kernel_rfl) (fun _ => by kernel_rfl) ?start ?ok ?fin
  case start =>
   intro D hD
   have e0 := hD 0 (by decide)
   have e2 := hD 2 (by decide)
   have e13 := hD 13 (by decide)
   have e14 := hD 14 (by decide)
   have e15 := hD 15 (by decide)
   refine ⟨Below.refl _ _, ?_, ?_, ?_, ?_, ?_, ?_, ?_, ?_⟩
   all_goals (intro h; simp [e0, e2, e13, e14, e15] at h)
  case ok =>
   intro T hT
   simp only [putAll, Act.put, List.setIfInBounds_toArray, List.set_cons_zero, List.set_cons_succ] at hT
   simp only [ghAll]
   refine ⟨?_, ?_, ?_, ?_, ?_, ?_, ?_, ?_, ?_, ?_, ?_, ?_, ?_, ?_, ?_, ?_, trivial⟩
   · refine gh_put rfl rfl (fun g v => by rw [hT, hT]; rfl) fun D g w' hD hdp hS => ?_
     rw [hT g]
     clear hT
     go_simp
     exact hS.op0 hD (Nat.le_refl _)
   · refine gh_same fun D g w' hD hdp hS => ?_
     have k1 := (hS.1.cell (p := ⟨bx, ox + (x.length - 1), none⟩) hbx1).trans hx1
     have k2 := (hS.1.cell (p := ⟨bf, of, none⟩) hbf).trans hf0
     rw [hT g]
     clear hT
     go_simp
     exact hS.keep (by decide) (by decide) (by decide) (by decide) (by decide)
   · refine gh_put rfl rfl (fun g v => by rw [hT, hT]; rfl) fun D g w' hD hdp hS => ?_
     have h0 : D 0 = true := by simp [Region.binds] at hdp; simp [hdp]
     obtain ⟨p, hg0, hp, hr⟩ := hS.2.1 h0 hD
     have hSb : Sl eB w1.heap.size w' (.slice (some ⟨bx, ox, none⟩) x.length c) x := Sl.below (W := w1.drew) hS1 hS.1
     have hrow : w'.ownsRow w1.heap.size 5 1 (.slice (some ⟨p, 0, none⟩) 0 0) 0 [] := ⟨rfl, .inr ⟨p, 0, #[], rfl, hp, hr, Nat.le_refl _, by unfold maxLen; omega, rfl, rfl⟩⟩
     have hsz := hS.1.size
     refine step_append_sl w' rfl (.tmp 16) (.tmp 17) _ rfl w1.heap.size 5 i0 (.int .u8 0) 1 Tryz.underlying22 hi hz0 hz1 hz2 rfl _ 0 [] hrow (by rw [hT g]; exact hg0) w1.heap.size _ x hSb (by rw [hT g]; rfl) (fun _ => rfl) (by have := HN.out; unfold maxLen; omega) (by have := HN.out; omega) hsz ?_
     intro v' w2 hown hgr hat
     exact ⟨v', rfl, hS.op2 hD h0 hp hr (by simpa using hown) hgr (Nat.le_refl _)⟩
   · refine gh_same fun D g w' hD hdp hS => ?_
     have k1 := (hS.1.cell (p := ⟨bx, ox + (x.length - 1), none⟩) hbx1).trans hx1
     have k2 := (hS.1.cell (p := ⟨bf, of, none⟩) hbf).trans hf0
     rw [hT g]
     clear hT
     go_simp
     exact hS.keep (by decide) (by decide) (by decide) (by decide) (by decide)
   · refine gh_same fun D g w' hD hdp hS => ?_
     have k1 := (hS.1.cell (p := ⟨bx, ox + (x.length - 1), none⟩) hbx1).trans hx1
     have k2 := (hS.1.cell (p := ⟨bf, of, none⟩) hbf).trans hf0
     rw [hT g]
     clear hT
     go_simp
     exact hS.keep (by decide) (by decide) (by decide) (by decide) (by decide)
   · refine gh_same fun D g w' hD hdp hS => ?_
     have k1 := (hS.1.cell (p := ⟨bx, ox + (x.length - 1), none⟩) hbx1).trans hx1
     have k2 := (hS.1.cell (p := ⟨bf, of, none⟩) hbf).trans hf0
     rw [hT g]
     clear hT
     go_simp
     exact hS.keep (by decide) (by decide) (by decide) (by decide) (by decide)
   · refine gh_same fun D g w' hD hdp hS => ?_
     have k1 := (hS.1.cell (p := ⟨bx, ox + (x.length - 1), none⟩) hbx1).trans hx1
     have k2 := (hS.1.cell (p := ⟨bf, of, none⟩) hbf).trans hf0
     rw [hT g]
     clear hT
     go_simp
     exact hS.keep (by decide) (by decide) (by decide) (by decide) (by decide)
   · refine gh_same fun D g w' hD hdp hS => ?_
     have k1 := (hS.1.cell (p := ⟨bx, ox + (x.length - 1), none⟩) hbx1).trans hx1
     have k2 := (hS.1.cell (p := ⟨bf, of, none⟩) hbf).trans hf0
     rw [hT g]
     clear hT
     go_simp
     exact hS.keep (by decide) (by decide) (by decide) (by decide) (by decide)
   · refine gh_same fun D g w' hD hdp hS => ?_
     have k1 := (hS.1.cell (p := ⟨bx, ox + (x.length - 1), none⟩) hbx1).trans hx1
     have k2 := (hS.1.cell (p := ⟨bf, of, none⟩) hbf).trans hf0
     rw [hT g]
     clear hT
     go_simp
     exact hS.keep (by decide) (by decide) (by decide) (by decide) (by decide)
   · refine gh_same fun D g w' hD hdp hS => ?_
     have k1 := (hS.1.cell (p := ⟨bx, ox + (x.length - 1), none⟩) hbx1).trans hx1
     have k2 := (hS.1.cell (p := ⟨bf, of, none⟩) hbf).trans hf0
     rw [hT g]
     clear hT
     go_simp
     exact hS.keep (by decide) (by decide) (by decide) (by decide) (by decide)
   · refine gh_same fun D g w' hD hdp hS => ?_
     have k1 := (hS.1.cell (p := ⟨bx, ox + (x.length - 1), none⟩) hbx1).trans hx1
     have k2 := (hS.1.cell (p := ⟨bf, of, none⟩) hbf).trans hf0
     rw [hT g]
     clear hT
     go_simp
     exact hS.keep (by decide) (by decide) (by decide) (by decide) (by decide)
   · refine gh_same fun D g w' hD hdp hS => ?_
     have k1 := (hS.1.cell (p := ⟨bx, ox + (x.length - 1), none⟩) hbx1).trans hx1
     have k2 := (hS.1.cell (p := ⟨bf, of, none⟩) hbf).trans hf0
     rw [hT g]
     clear hT
     go_simp
     exact hS.keep (by decide) (by decide) (by decide) (by decide) (by decide)
   · refine gh_same fun D g w' hD hdp hS => ?_
     rw [hT g]
     clear hT
     go_simp
     refine (hJ _).mono ?_
     rintro e w' ⟨rfl, rfl⟩
     exact ⟨rfl, hS.keep (by decide) (by decide) (by decide) (by decide) (by decide)⟩
   · refine gh_put rfl rfl (fun g v => by rw [hT, hT]; rfl) fun D g w' hD hdp hS => ?_
     rw [hT g]
     clear hT
     go_simp
     exact hS.op13 hD (Nat.le_refl _)
   · refine gh_put rfl rfl (fun g v => by rw [hT, hT]; rfl) fun D g w' hD hdp hS => ?_
     have h2 : D 2 = true := by simp [Region.binds] at hdp; simp [hdp]
     have h13 : D 13 = true := by simp [Region.binds] at hdp; simp [hdp]
     have hrow := hS.2.2.1 h2 hD
     obtain ⟨q, hg13, hq⟩ := hS.2.2.2.1 h13 hD
     have hsz := hS.1.size
     have hone : Sl eB w'.heap.size w' (.slice (some ⟨q, 0, none⟩) 1 1) [j] := ⟨_, 1, rfl, Nat.le_refl _, fun _ => ⟨q, 0, rfl, Rowed.lt hq, fun i y hy => by
      rcases i with _ | i
      · simp at hy; subst hy; simpa using hq.cell 0
      · simp at hy⟩⟩
     refine step_append_sl w' rfl (.tmp 18) (.tmp 29) _ rfl w1.heap.size 5 i0 (.int .u8 0) 1 Tryz.underlying22 hi hz0 hz1 hz2 rfl _ x.length _ hrow (by rw [hT g]; rfl) w'.heap.size _ [j] hone (by rw [hT g]; exact hg13) (fun _ => rfl) (by have := HN.out; unfold maxLen; simp; omega) (by have := HN.out; simp; omega) hsz ?_
     intro v' w2 hown hgr hat
     exact ⟨v', rfl, hS.op14 hD h2 h13 (by simpa using hown) (below_grown hrow hgr hsz (Nat.le_refl _))⟩
   · refine gh_put rfl rfl (fun g v => by rw [hT, hT]; rfl) fun D g w' hD hdp hS => ?_
     have h14 : D 14 = true := by simp [Region.binds] at hdp; simp [hdp]
     rw [hT g]
     clear hT
     go_simp
     exact hS.op15 hD h14
  case fin =>
   intro T hT D g w' hall hS
   obtain ⟨hBe, hown⟩ := hS.end (hall 15 (by decide))
   have hTg := hT g
   simp only [putAll, Act.put, List.setIfInBounds_toArray, List.set_cons_zero, List.set_cons_succ] at hTg
   rw [hTg]
   clear hT hTg hS hall
   have hBt : Below w1.heap.size w1 w' := Below.trans (below_drew_w'' w1) hBe
   generalize g 15 = gv at *
   clear hBe hS1 hx1 hf0 hJ
   go_wp2_with fail
   go_loopw [6, 7] (fun v t wr => ∃ k : Nat, k ≤ 3 ∧ t = .int .i64 k ∧ wr.ownsRow w1.heap.size 5 1 v (x.length + 1 + k * f.length) (((x ++ [j]) ++ (List.replicate k f).flatten).map eB) ∧ Below w1.heap.size w1 wr) (fun _ t _ => 3 - (intOf t).toNat)
   case atStart => exact ⟨0, by omega, rfl, by simpa using hown, hBt⟩
   case round =>
    obtain ⟨k, hk, rfl, hrow, hB⟩ := hrel
    by_cases hlt : k < 3
    · have hvk := hv.below hB
      have q1 : x.length + 1 + k * f.length + f.length ≤ maxLen := by
       have hN := HN.out
       have : k * f.length ≤ 2 * f.length := Nat.mul_le_mul_right _ (by omega)
       unfold maxLen; omega
      have q2 : (x.length + 1 + k * f.length + f.length) * 1 ≤ 140737488355328 := by
       have hN := HN.out
       have : k * f.length ≤ 2 * f.length := Nat.mul_le_mul_right _ (by omega)
       omega
      have hBs := hB.size
      have Hlt := Lib.hid hlt
      have hki : (k : Int) < 3 := by omega
      have hk9 : k ≤ 3 := by omega
      clear hlt
      go_wp2_with
        (at_builtin
         refine wpList_append_sl _ rfl (.tmp 35) (.tmp 36) _ rfl w1.heap.size 5 i0 (.int .u8 0) 1 Tryz.underlying22 hi hz0 hz1 hz2 rfl _ _ _ hrow rfl w1.heap.size _ f hvk rfl (fun _ => rfl) q1 q2 hBs ?_
         intro v2 w3 hown2 hg2 hat2
         have hB3 := hB.trans (below_grown hrow hg2 hBs (Nat.le_refl _)))
      have hown3 : w3.ownsRow w1.heap.size 5 1 v2 (x.length + 1 + (k + 1) * f.length) (((x ++ [j]) ++ (List.replicate (k + 1) f).flatten).map eB) := by
       rw [show x.length + 1 + (k + 1) * f.length = x.length + 1 + k * f.length + f.length by rw [Nat.succ_mul]; omega, List.replicate_succ', List.flatten_append, ← List.append_assoc, List.map_append]
       simpa using hown2
      clear hown2 q1 q2
      go_roundw
      case rel => exact ⟨k + 1, by have := Hlt.out; omega, by go_num, hown3, hB3⟩
      case measure => have := Hlt.out; simp [intOf]; omega
    · obtain rfl : k = 3 := by omega
      have hfl : (x ++ [j]) ++ (List.replicate 3 f).flatten = wordL x f := by rw [HW.out, Hjd.out]; simp [List.replicate]
      rw [hfl] at hrow
      have hsl : Sl eB wr.heap.size wr u6 (wordL x f) := by
       have hl := hrow.1
       refine Sl.of_own (n := x.length + 1 + 3 * f.length) hrow
      obtain ⟨A6, l6, c6, rfl⟩ := own_shape hrow
      clear hv hrow hfl
      go_wp2_with fail
      go_ret2
      exact ⟨below_trans hB1 hB, _, rfl, hsl⟩
end Go.Proofs.YtkibigbcdlilkaaGreatDoor
namespace Go.Proofs.YtkibigbcdlilkaaGreatDoor
open Go.RowKit Go.Shelf
attribute [local go_sem] Oper.semAt_some run_store_func
set_option maxRecDepth 100000 in
set_option maxHeartbeats 2000000 in
theorem WRTold_any (sv : Value) (x : List UInt8) (n : Int) (hreach : x.length ≤ 100000) (w : World) (hS : Sl eB w.heap.size w sv x) :
    Calls Tryz.prog 44 #[sv, .int .i64 n] w fun e w' => Below w.heap.size w w' ∧
      ((∃ a b c : Nat, ToldOk x n (a, b, c) ∧ e = .returned (.tuple #[v3 a b c, .int .i64 0])) ∨ ((¬ ∃ s, ToldOk x n s) ∧ e = .returned (.tuple #[v3 0 0 0, .int .i64 130]))) := by
  obtain ⟨hz, hsz⟩ := zero_of_info infoS
  have hc0 : (v3 0 0 0).cells = #[.int .i64 0, .int .i64 0, .int .i64 0] := rfl
  have hA0 := below_alloc w (.cells (c3 0 0 0) 51)
  have hr0 := Rowed.new w 51 (c3 0 0 0)
  have hB := fun w h => RBack_any sv x hreach w h
  obtain ⟨A, c, rfl⟩ := hS.len
  have hS0 := hS.next hA0
  have hbd : ∀ w, (Instr.build 51 #[]).run Tryz.prog w = .ok (v3 0 0 0) w := fun _ => by kernel_rfl
  clear hS hreach
  go_enter Tryz.func44, Tryz.ntmps44
  go_wp2_with fail
  generalize w.alloc (.cells (c3 0 0 0) 51) = w0 at *
  have hlt0 := hr0.lt
  go_at_call 72
  refine (hB _ hS0).mono ?_
  clear hB
  rintro e w1 ⟨hB1, ⟨v, rfl, hall, hv⟩ | ⟨rfl, hno⟩⟩
  · obtain ⟨bs, hbs⟩ : ∃ bs, x.zipIdx.map bitB = bs := ⟨_, rfl⟩
    rw [hbs] at hv
    have Hbs := Lib.hid hbs
    have Hall := Lib.hid hall
    have hU := rUnpack_any v bs n w1 hv
    obtain ⟨Av, cv, rfl⟩ := hv.len
    have hr1 : Rowed w1 w.heap.size 51 (c3 0 0 0) := (hB1.block _ hlt0).trans hr0
    have hBw := below_trans hA0 hB1
    clear hbs hall hr0 hA0 hB1 hS0
    by_cases hn : 2 ≤ n ∧ n ≤ 800
    · obtain ⟨k, rfl⟩ : ∃ k : Nat, n = k := ⟨n.toNat, by omega⟩
      have hL := fun w => WRLong_yes k (by omega) (by omega) w
      have hng := neg_len (wlongN k)
      have Hn := Lib.hid hn
      generalize wlongN k = L at *
      clear hn
      go_wp2_with fail
      go_at_call 26
      refine (hL _).mono ?_
      rintro e w' ⟨rfl, rfl⟩
      go_wp2_with fail
      go_at_call 73
      refine hU.mono ?_
      clear hU
      rintro e w2 ⟨hB2, ⟨a, b, d, hg, rfl⟩ | ⟨hg, rfl⟩⟩
      · have hr2 : Rowed w2 w.heap.size 51 (c3 0 0 0) := (hB2.block _ hr1.lt).trans hr1
        have hr2a := hr2.alloc (.cells (c3 a b d) 51)
        have hA2 := below_alloc w2 (.cells (c3 a b d) 51)
        have hr7 := Rowed.new w2 51 (c3 a b d)
        have hBx3 := below_trans (below_trans hBw hB2) hA2
        have Hg := Lib.hid hg
        clear hg hr2 hr1
        go_upto_region 5 with fail
        generalize w2.alloc (.cells (c3 a b d) 51) = w3 at *
        generalize w2.heap.size = g7 at *
        have hrow := setRow_heap w3 w.heap.size (c3 0 0 0) (c3 a b d) _ _ hr2a
        have hBe := below_setRow hBx3 w.heap.size (c3 a b d) (Nat.le_refl _)
        go_wp2_with (first
         | (refine wpList_load_row rfl 51 (.tmp 8) rfl g7 rfl _ (c3 a b d) _ _ hr7 Tryz.underlying51 rfl (size_c3 a b d) ?_)
         | (refine wpList_store_row rfl 51 (.tmp 4) (.tmp 31) rfl w.heap.size (c3 a b d) rfl rfl _ _ hr2a (size_c3 a b d) rfl (one_c3 a b d) ?_))
        refine bodyPost_ret (v := .tuple #[v3 a b d, .int .i64 0]) ?_ rfl ⟨hBe, .inl ⟨a, b, d, ⟨Hn.out, Hall.out, by rw [Hbs.out]; exact Hg.out⟩, rfl⟩⟩
        exact results_cell_slot (p := 4) (q := 5) rfl _ _ w.heap.size _ _ _ _ rfl hrow Tryz.underlying51 rfl (size_c3 a b d)
      · have hr2 : Rowed w2 w.heap.size 51 (c3 0 0 0) := (hB2.block _ hr1.lt).trans hr1
        have hr2a := hr2.alloc (.cells (c3 0 0 0) 51)
        have hA2 := below_alloc w2 (.cells (c3 0 0 0) 51)
        have hBx3 := below_trans (below_trans hBw hB2) hA2
        have Hg := Lib.hid hg
        clear hg hr2 hr1
        go_upto_region 5 with fail
        generalize w2.alloc (.cells (c3 0 0 0) 51) = w3 at *
        generalize w2.heap.size = g7 at *
        have hrow := setRow_heap w3 w.heap.size (c3 0 0 0) (c3 0 0 0) _ _ hr2a
        have hBe := below_setRow hBx3 w.heap.size (c3 0 0 0) (Nat.le_refl _)
        go_wp2_with (first
         | (refine wpList_store_row rfl 51 (.tmp 4) (.tmp 30) rfl w.heap.size (c3 0 0 0) rfl rfl _ _ hr2a (size_c3 0 0 0) rfl (one_c3 0 0 0) ?_))
        refine bodyPost_ret (v := .tuple #[v3 0 0 0, .int .i64 130]) ?_ rfl ⟨hBe, .inr ⟨(fun ⟨s, h⟩ => by have e := h.2.2; rw [Hbs.out, Hg.out] at e; cases e), rfl⟩⟩
        exact results_cell_slot (p := 4) (q := 5) rfl _ _ w.heap.size _ _ _ _ rfl hrow Tryz.underlying51 rfl (size_c3 0 0 0)
    · have hL := fun w => WRLong_no n (by omega) w
      have Hn := Lib.hid hn
      have hrow := setRow_heap w1 w.heap.size (c3 0 0 0) (c3 0 0 0) _ _ hr1
      have hBe := below_setRow hBw w.heap.size (c3 0 0 0) (Nat.le_refl _)
      clear hn hU
      go_wp2_with fail
      go_at_call 26
      refine (hL _).mono ?_
      rintro e w' ⟨rfl, rfl⟩
      go_wp2_with (first
       | (refine wpList_store_row rfl 51 (.tmp 4) (.tmp 21) rfl w.heap.size (c3 0 0 0) rfl rfl _ _ hr1 (size_c3 0 0 0) rfl (one_c3 0 0 0) ?_))
      refine bodyPost_ret (v := .tuple #[v3 0 0 0, .int .i64 130]) ?_ rfl ⟨hBe, .inr ⟨(fun ⟨s, h⟩ => Hn.out h.1), rfl⟩⟩
      exact results_cell_slot (p := 4) (q := 5) rfl _ _ w.heap.size _ _ _ _ rfl hrow Tryz.underlying51 rfl (size_c3 0 0 0)
  · have Hno := Lib.hid hno
    have hr1 : Rowed w1 w.heap.size 51 (c3 0 0 0) := (hB1.block _ hlt0).trans hr0
    have hrow := setRow_heap w1 w.heap.size (c3 0 0 0) (c3 0 0 0) _ _ hr1
    have hBe := below_setRow (below_trans hA0 hB1) w.heap.size (c3 0 0 0) (Nat.le_refl _)
    clear hno hr0 hA0 hB1 hS0
    go_wp2_with (first
     | (refine wpList_store_row rfl 51 (.tmp 4) (.tmp 21) rfl w.heap.size (c3 0 0 0) rfl rfl _ _ hr1 (size_c3 0 0 0) rfl (one_c3 0 0 0) ?_))
    refine bodyPost_ret (v := .tuple #[v3 0 0 0, .int .i64 130]) ?_ rfl ⟨hBe, .inr ⟨(fun ⟨s, h⟩ => Hno.out h.2.1), rfl⟩⟩
    exact results_cell_slot (p := 4) (q := 5) rfl _ _ w.heap.size _ _ _ _ rfl hrow Tryz.underlying51 rfl (size_c3 0 0 0)
end Go.Proofs.YtkibigbcdlilkaaGreatDoor
