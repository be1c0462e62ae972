import Derived.Test.YtjclfkbhakjdaaaDoorFrKY
import Derived.Test.YtjclfkbhakjdaaaDoorGCY
namespace Go.Proofs.YtjclfkbhakjdaaaDoor
open Go.RowKit Go.Shelf
attribute [local go_sem] Oper.semAt_some run_store_func
set_option maxRecDepth 100000 in
set_option maxHeartbeats 400000 in
theorem BClone_any (sv : Value) (a : List UInt8) (hreach : a.length ≤ 140737488355328) (w : World) (ha : Sl eB w.heap.size w sv a) :
    Calls Tryd.prog 45 #[sv] w fun e w' => ∃ v, e = .returned v ∧ Own8 w.heap.size w' v a ∧ Below w.heap.size w w' := by
  obtain ⟨i0, hi, hz0, hz1, hz2⟩ := info_parts info_u8
  have hrow := row_made w
  have hB1 : Below w.heap.size w (w.alloc (.cells #[] 5)) := (Below.refl _ _).alloc (Nat.le_refl _) _
  obtain ⟨A, c, rfl⟩ := ha.len
  cases A with
  | none =>
    have hx : a = [] := by
     obtain ⟨A, c', e, _, hcells⟩ := ha
     cases e
     cases a with
     | nil => rfl
     | cons x xs => obtain ⟨_, _, h, _⟩ := hcells (by simp); cases h
    subst hx
    have hq : ∀ w, (binOp .eql 24 (.slice none 0 c) (.slice none 0 0)).run Tryd.prog w = .ok (.bool true) w := fun w => Lib.run_eql_slice_nil w 24 5 none 0 c 0 0 Tryd.underlying24
    go_enter Tryd.func45, Tryd.ntmps45
    go_wp2
    go_ret
    exact ⟨_, rfl, ⟨rfl, .inl ⟨rfl, rfl⟩⟩, Below.refl _ _⟩
  | some ad =>
    have hq : ∀ w, (binOp .eql 24 (.slice (some ad) a.length c) (.slice none 0 0)).run Tryd.prog w = .ok (.bool false) w := fun w => Lib.run_eql_slice_nil w 24 5 (some ad) a.length c 0 0 Tryd.underlying24
    go_enter Tryd.func45, Tryd.ntmps45
    go_wp2_with
      (at_builtin
       refine wpList_append_sl _ rfl (.tmp 5) (.tmp 6) _ rfl w.heap.size 5 i0 (.int .u8 0) 1 Tryd.underlying24 hi hz0 hz1 hz2 rfl _ 0 [] hrow rfl w.heap.size (.slice (some ad) a.length c) a (ha.below hB1) rfl (fun _ => rfl) (by unfold maxLen; omega) (by omega) (by simp) ?_
       intro v1 w1 hown1 hg1 hat1
       have hB2 : Below w.heap.size w w1 := hB1.trans (below_grown hrow hg1 (by simp) (Nat.le_refl _)))
    go_ret
    exact ⟨v1, rfl, by simpa [Own8] using hown1, hB2⟩
def BkS (N : World) (G PL : Int) (pay : List UInt8) (D : Nat → Bool) (g : Nat → Value) (w : World) : Prop :=
 Below N.heap.size N w ∧ (D 16 = true → Sl eB w.heap.size w (g 16) pay) ∧ (D 17 = true → ∃ v, g 17 = frV G PL v ∧ Sl eB w.heap.size w v pay) ∧
 (D 18 = true → D 19 = false → ∃ q, g 18 = .pointer (some ⟨q, 0, none⟩) ∧ N.heap.size ≤ q ∧ Rowed w q 26 (frB 0 0 (.slice none 0 0))) ∧
 (D 19 = true → ∃ q v, g 18 = .pointer (some ⟨q, 0, none⟩) ∧ N.heap.size ≤ q ∧ Rowed w q 26 (frB G PL v) ∧ Sl eB w.heap.size w v pay) ∧ (D 17 = true → D 16 = true) ∧ (D 19 = true → D 17 = true ∧ D 18 = true)
theorem u16_or (a b : UInt8) : bits .or .i64 ((a.toNat : Int) * 256) (b.toNat : Int) = ((a.toNat * 256 + b.toNat : Nat) : Int) := by
 have ha := a.toNat_lt
 have hb := b.toNat_lt
 have h1 : (BitVec.ofInt IntKind.i64.bits ((a.toNat : Int) * 256) ||| BitVec.ofInt IntKind.i64.bits (b.toNat : Int)).toNat = a.toNat * 256 + b.toNat := by
  rw [BitVec.toNat_or, BitVec.toNat_ofInt, BitVec.toNat_ofInt]
  have e1 : (((a.toNat : Int) * 256) % ((2 ^ IntKind.i64.bits : Nat) : Int)).toNat = 2 ^ 8 * a.toNat := by
   show (((a.toNat : Int) * 256) % ((2 ^ 64 : Nat) : Int)).toNat = _
   omega
  have e2 : ((b.toNat : Int) % ((2 ^ IntKind.i64.bits : Nat) : Int)).toNat = b.toNat := by
   show ((b.toNat : Int) % ((2 ^ 64 : Nat) : Int)).toNat = _
   omega
  rw [e1, e2, ← Nat.two_pow_add_eq_or_of_lt (i := 8) (b := b.toNat) (by omega) a.toNat]
  omega
 unfold bits
 simp only [h1]
 exact IntWalk.i64_in _ (by omega)
end Go.Proofs.YtjclfkbhakjdaaaDoor
namespace Go.Proofs.YtjclfkbhakjdaaaDoor
open Go.RowKit Go.Shelf
attribute [local go_sem] Oper.semAt_some run_store_func
theorem each_len (bs : List UInt8) : ∀ k r, Tr.eachG Tr.backG bs 26 k = .ok r → r.length = 5 * k
  | 0, r, h => by cases h; rfl
  | k + 1, r, h => by
    rw [Tr.eachG] at h
    cases h1 : Tr.eachG Tr.backG bs 26 k with
    | error e => rw [h1] at h; cases h
    | ok r1 =>
      rw [h1] at h
      simp only at h
      cases h2 : Tr.backG (Tr.partL bs 26 k) with
      | error e => rw [h2] at h; cases h
      | ok y =>
        rw [h2] at h
        cases h
        have hy : y.length = 5 := by
         unfold Tr.backG at h2
         split at h2
         · cases h2
         · split at h2
           · cases h2
           · cases h2; exact Tr.byL_length _
        rw [List.length_append, each_len bs k r1 h1, hy]
        omega
theorem bak_parts {n k : Nat} {x b : List UInt8} (h : bakG n k x = .ok b) : ∃ y t, unbG n x = .ok y ∧ Tu.backG 65 y = .ok t ∧ Tr.eachG Tr.backG t 26 k = .ok b := by
 have h' : bindG (bindG (unbG n x) (Tu.backG 65)) (fun t => Tr.eachG Tr.backG t 26 k) = .ok b := h
 cases h1 : unbG n x with
 | error e => rw [h1] at h'; cases h'
 | ok y =>
   rw [h1] at h'
   have h2 : bindG (Tu.backG 65 y) (fun t => Tr.eachG Tr.backG t 26 k) = .ok b := h'
   cases h3 : Tu.backG 65 y with
   | error e => rw [h3] at h2; cases h2
   | ok t =>
     rw [h3] at h2
     exact ⟨y, t, rfl, h3, h2⟩
theorem bak_len {n k : Nat} {x b : List UInt8} (h : bakG n k x = .ok b) : b.length = 5 * k := by
 obtain ⟨y, t, -, -, h3⟩ := bak_parts h
 exact each_len _ _ _ h3
def idxG (k : Nat) : Nat := if k < 2 then 6 else 8
theorem idx_is (k : Nat) : Sh.indexK k = (idxG k : Int) := by unfold Sh.indexK idxG; split <;> rfl
def grpG (b : List UInt8) : Int := (((b[0]?.getD 0).toNat * 256 + (b[1]?.getD 0).toNat : Nat) : Int)
def plcG (b : List UInt8) : Int := ((b[2]?.getD 0).toNat : Int)
set_option maxRecDepth 100000 in
set_option maxHeartbeats 8000000 in
theorem back_err (k : Nat) (hk : k < 5) (D R : Int) (hr : Sh.restOk D R) (sv : Value) (x : List UInt8) (hl : (x.length : Int) = Sh.innerK k) (w : World) (hT : Tabs w) (hS : Sl eB w.heap.size w sv x) (m : Int) (hm : bakG (idxG k) (k + 1) x = .error m) :
    Calls Tryd.prog 27 #[shV (Sh.pay k) D R, sv] w fun e w' => e = .panicked (errno m) ∧ Below w.heap.size w w' := by
  have hlen : x.length = idxG k + (k + 1) * 26 := by
   unfold Sh.innerK Sh.bodyK at hl
   rw [idx_is] at hl
   omega
  have hin : idxG k ≤ 10 := by unfold idxG; split <;> omega
  have hcl : (shV (Sh.pay k) D R).cells = shB (Sh.pay k) D R := rfl
  obtain ⟨W0, hW0⟩ : ∃ W0, (w.alloc (.cells (shB (Sh.pay k) D R) 23)).alloc (.cells (frB 0 0 (.slice none 0 0)) 26) = W0 := ⟨_, rfl⟩
  have hA : Below w.heap.size w W0 := by rw [← hW0]; exact (below_alloc w _).alloc (by simp) _
  have hr0 : Rowed W0 w.heap.size 23 (shB (Sh.pay k) D R) := by rw [← hW0]; exact (Rowed.new w 23 _).alloc _
  have HRW := Lib.hid (fun W (h : Below W0.heap.size W0 W) => show Rowed W w.heap.size 23 (shB (Sh.pay k) D R) from (h.block _ hr0.lt).trans hr0)
  have HT := Lib.hid (fun W (h : Below W0.heap.size W0 W) => (hT.below hA).below h)
  have HS := Lib.hid (fun W (h : Below W0.heap.size W0 W) => (hS.next hA).next h)
  have hM := Sh.may_at (D := D) (R := R) hk hr
  have hq1 := Sh.Check_yes (Sh.pay k) D R hM W0 (hT.below hA).2.2.2.2
  have HQ2 := Lib.hid (fun W (h : Below W0.heap.size W0 W) => Sh.Inner_yes k hk D R hr W ((hT.below hA).below h).2.2.2.2)
  have HQ3 := Lib.hid (fun W (h : Below W0.heap.size W0 W) => Sh.Index_yes k hk D R hr W ((hT.below hA).below h).2.2.2.2)
  rw [idx_is] at HQ3
  have HTK := Lib.hid (fun W bi (hb : Boxed W bi 3 (.int .i64 (idxG k))) (hT : Tabs W) (h : Sl eB W.heap.size W sv x) => taken_back bi (idxG k) (k + 1) sv x hlen hin (by omega) (by omega) W hb hT h)
  rw [hm] at HTK
  have hle : ((x.length : Int) == Sh.innerK k) = true := beq_iff_eq.2 hl
  generalize Sh.innerK k = IN at *
  generalize idxG k = IX at *
  obtain ⟨A, c, rfl⟩ := hS.len
  have k0 := hr0.cell 0
  have k1 := hr0.cell 1
  have k2 := hr0.cell 2
  generalize Sh.pay k = P at *
  clear hS hT hlen hin hM hr hk hr0 hl hm
  go_enter Tryd.func27, Tryd.ntmps27
  go_wp2_with fail
  go_at_call 30
  refine hq1.mono ?_
  rintro e w1 ⟨rfl, hB1⟩
  have hr1 := HRW.out w1 hB1
  have j0 := hr1.cell 0
  have j1 := hr1.cell 1
  have j2 := hr1.cell 2
  have hq := HQ2.out w1 hB1
  clear k0 k1 k2 hr1 hq1 hW0
  go_wp2_with fail
  go_at_call 18
  refine (must_ok _).mono ?_
  rintro e w2 ⟨rfl, rfl⟩
  go_wp2_with fail
  go_at_call 40
  refine hq.mono ?_
  rintro e w2 ⟨rfl, hB2⟩
  have hB2 := below_trans hB1 hB2
  have hr2 := HRW.out w2 hB2
  have i0 := hr2.cell 0
  have i1 := hr2.cell 1
  have i2 := hr2.cell 2
  have hq := HQ3.out w2 hB2
  clear j0 j1 j2 hr2 hB1
  go_wp2_with fail
  go_at_call 42
  refine hq.mono ?_
  rintro e w3 ⟨rfl, hB3⟩
  have hB3 := below_trans hB2 hB3
  clear i0 i1 i2 hq
  go_wp2_with fail
  go_at_call 41
  refine (unbalanced_any _ w3).mono ?_
  rintro e w4 ⟨rfl, rfl⟩
  have hA4 := below_alloc w3 (.cells #[.int .i64 IX] 3)
  have hb4 := Boxed.new w3 3 (.int .i64 IX)
  have hB4 := below_trans hB3 hA4
  have hq := HTK.out _ w3.heap.size hb4 (HT.out _ hB4) (HS.out _ hB4)
  have HB4 := Lib.hid hB4
  have hbd : ∀ w, (Instr.build 53 #[(0, .func (.func 63) #[] #[.pointer (some ⟨w3.heap.size, 0, none⟩)]), (1, .func (.func 43) #[] #[]), (2, .func (.func 44) #[] #[])]).run Tryd.prog w = .ok (.agg #[fnV 63 #[.pointer (some ⟨w3.heap.size, 0, none⟩)], fnV 43 #[], fnV 44 #[]]) w := fun _ => by kernel_rfl
  generalize w3.alloc (.cells #[.int .i64 IX] 3) = w4 at *
  clear hA4 hb4 hB4 hB3 hB2
  go_wp2_with fail
  go_at_call 19
  refine hq.mono ?_
  rintro e w5 ⟨hB5, ⟨v5, y, he, -, -⟩ | ⟨m', he, -, rfl⟩⟩
  · cases he
  · cases he
    have hB6 := below_trans hA (below_trans HB4.out hB5)
    clear hq hbd
    go_wp2_with fail
    exact ⟨rfl, rfl, hB6⟩
end Go.Proofs.YtjclfkbhakjdaaaDoor
namespace Go.Proofs.YtjclfkbhakjdaaaDoor
open Go.RowKit Go.Shelf
theorem gh_put {P : Program} {md : Region.Mode} {ops : Array Oper} {S : (Nat → Bool) → (Nat → Value) → World → Prop} {A : (Nat → Value) → Act} {i : Nat} {o : Oper} {s : Tmp} (hi : ops[i]? = some o) (hd : o.dst = some s)
    (hA : ∀ g v, A (fun j => if j = i then v else g j) = (A g).put (some s) v)
    (hrun : ∀ D g w, D i = false → (o.after.all fun e => !Region.binds md e || D e.on) = true → S D g w →
      if Region.wanted o (yielded ops (A g).tmps) = true then o.wp P (A g) w (fun a' w' => ∃ v, a' = (A g).put (some s) v ∧ S (upd D i) (fun j => if j = i then v else g j) w') (fun _ _ _ => False) else False) : GhOk P md ops S A i o := by
 intro D g w hD hdep hS
 have h := hrun D g w hD hdep hS
 split
 · rename_i hw
   rw [if_pos hw] at h
   refine Oper.wp_mono (fun a' w' ⟨v, e, hS'⟩ => ?_) h
   refine ⟨fun j => if j = i then v else g j, ?_, ?_, ?_, hS'⟩
   · rw [hA, e]
   · intro s' _
     rw [e, hA]
   · intro s' hs'
     rw [hA]
     have hne : s ≠ s' := by
      rintro rfl
      have := hs' i o hi hd
      rw [hD] at this
      cases this
     simp only [Act.put]
     rw [Array.getElem?_setIfInBounds_ne hne]
 · rename_i hw
   rw [if_neg hw] at h
   exact h.elim
theorem sl_setfr {B : Nat} {W : World} {v : Value} {xs : List UInt8} {q : Nat} {t : TypeId} {a b : Int} {A0 : Option Addr} {l0 c0 : Nat} (h : Sl eB B W v xs) (hr : Rowed W q t (frB a b (.slice A0 l0 c0))) (j0 : Nat) (u : Value) : Sl eB B (W.setCell ⟨q, j0, none⟩ u) v xs := by
 obtain ⟨A, c, rfl, hc, hcs⟩ := h
 refine ⟨A, c, rfl, hc, fun h0 => ?_⟩
 obtain ⟨bk, off, rfl, hbb, hcell⟩ := hcs h0
 refine ⟨bk, off, rfl, hbb, fun j x hx => ?_⟩
 have hne : bk ≠ q := by
  rintro rfl
  have h1 := hcell j x hx
  rw [hr.cell] at h1
  rcases hj : off + j with _ | _ | _ | m
  · rw [hj] at h1; simp [eB] at h1
  · rw [hj] at h1; simp [eB] at h1
  · rw [hj] at h1; simp [eB] at h1
  · rw [hj] at h1; simp at h1
 have := hcell j x hx
 rwa [World.cell?_setCell_other]
 intro e
 injection e with e1
 exact hne e1.symm
theorem no_of {b c : Bool} (h : b = true → c = true) (hc : c = false) : b = false := by
 cases e : b with
 | false => rfl
 | true => rw [h e] at hc; cases hc
section
variable {N : World} {G PL : Int} {pay : List UInt8} {D : Nat → Bool} {g : Nat → Value} {w w' : World}
theorem BkS.same {j : Nat} (h : BkS N G PL pay D g w) (h1 : 16 ≠ j) (h2 : 17 ≠ j) (h3 : 18 ≠ j) (h4 : 19 ≠ j) : BkS N G PL pay (upd D j) g w := by
 unfold BkS
 rw [upd_other D h1, upd_other D h2, upd_other D h3, upd_other D h4]
 exact h
theorem BkS.clone {v : Value} (h : BkS N G PL pay D g w) (hB : Below w.heap.size w w') (hv : Sl eB w'.heap.size w' v pay) (hD : D 16 = false) : BkS N G PL pay (upd D 16) (fun j => if j = 16 then v else g j) w' := by
 obtain ⟨s0, s1, s2, s3, s4, s5, s6⟩ := h
 have n17 := no_of s5 hD
 have n19 := no_of (fun e => (s6 e).1) n17
 unfold BkS
 rw [upd_same, upd_other D (show 17 ≠ 16 by decide), upd_other D (show 18 ≠ 16 by decide), upd_other D (show 19 ≠ 16 by decide), n17, n19]
 refine ⟨below_trans s0 hB, fun _ => by simpa using hv, fun h1 => (by cases h1), fun h1 _ => ?_, fun h1 => (by cases h1), fun h1 => rfl, fun h1 => (by cases h1)⟩
 obtain ⟨q, e1, e2, e3⟩ := s3 h1 n19
 exact ⟨q, by simpa using e1, e2, (hB.block _ e3.lt).trans e3⟩
theorem BkS.built {v : Value} (h : BkS N G PL pay D g w) (hg : g 16 = v) (h16 : D 16 = true) (hD : D 17 = false) : BkS N G PL pay (upd D 17) (fun j => if j = 17 then frV G PL v else g j) w := by
 obtain ⟨s0, s1, s2, s3, s4, s5, s6⟩ := h
 have n19 := no_of (fun e => (s6 e).1) hD
 unfold BkS
 rw [upd_same, upd_other D (show 16 ≠ 17 by decide), upd_other D (show 18 ≠ 17 by decide), upd_other D (show 19 ≠ 17 by decide), n19]
 refine ⟨s0, fun h1 => by simpa using s1 h1, fun _ => ⟨v, by simp, hg ▸ s1 h16⟩, fun h1 _ => ?_, fun h1 => (by cases h1), fun _ => h16, fun h1 => (by cases h1)⟩
 obtain ⟨q, e1, e2, e3⟩ := s3 h1 n19
 exact ⟨q, by simpa using e1, e2, e3⟩
theorem BkS.made (h : BkS N G PL pay D g w) (hD : D 18 = false) : BkS N G PL pay (upd D 18) (fun j => if j = 18 then .pointer (some ⟨w.heap.size, 0, none⟩) else g j) (w.alloc (.cells (frB 0 0 (.slice none 0 0)) 26)) := by
 obtain ⟨s0, s1, s2, s3, s4, s5, s6⟩ := h
 have n19 := no_of (fun e => (s6 e).2) hD
 have hB := below_alloc w (.cells (frB 0 0 (.slice none 0 0)) 26)
 unfold BkS
 rw [upd_same, upd_other D (show 16 ≠ 18 by decide), upd_other D (show 17 ≠ 18 by decide), upd_other D (show 19 ≠ 18 by decide), n19]
 refine ⟨below_trans s0 hB, fun h1 => by simpa using (s1 h1).next hB, fun h1 => ?_, fun _ _ => ⟨w.heap.size, by simp, s0.size, Rowed.new w _ _⟩, fun h1 => (by cases h1), s5, fun h1 => (by cases h1)⟩
 obtain ⟨v, e1, e2⟩ := s2 h1
 exact ⟨v, by simpa using e1, e2.next hB⟩
theorem BkS.stored {q l c : Nat} {A : Option Addr} (h : BkS N G PL pay D g w) (h17 : D 17 = true) (h18 : D 18 = true) (hD : D 19 = false) (hg : g 17 = frV G PL (.slice A l c)) (hq : g 18 = .pointer (some ⟨q, 0, none⟩)) :
    BkS N G PL pay (upd D 19) g (((w.setCell ⟨q, 0, none⟩ (.int .i64 G)).setCell ⟨q, 1, none⟩ (.int .i64 PL)).setCell ⟨q, 2, none⟩ (.slice A l c)) := by
  obtain ⟨s0, s1, s2, s3, s4, s5, s6⟩ := h
  obtain ⟨q', e1, e2, e3⟩ := s3 h18 hD
  rw [hq] at e1
  cases e1
  obtain ⟨v, e4, e5⟩ := s2 h17
  rw [hg] at e4
  cases e4
  have r1 : Rowed (w.setCell ⟨q, 0, none⟩ (.int .i64 G)) q 26 (frB G 0 (.slice none 0 0)) := e3.set 0 (.int .i64 G)
  have r2 : Rowed ((w.setCell ⟨q, 0, none⟩ (.int .i64 G)).setCell ⟨q, 1, none⟩ (.int .i64 PL)) q 26 (frB G PL (.slice none 0 0)) := r1.set 1 (.int .i64 PL)
  have r3 : Rowed (((w.setCell ⟨q, 0, none⟩ (.int .i64 G)).setCell ⟨q, 1, none⟩ (.int .i64 PL)).setCell ⟨q, 2, none⟩ (.slice A l c)) q 26 (frB G PL (.slice A l c)) := r2.set 2 (.slice A l c)
  have hsz : (((w.setCell ⟨q, 0, none⟩ (.int .i64 G)).setCell ⟨q, 1, none⟩ (.int .i64 PL)).setCell ⟨q, 2, none⟩ (.slice A l c)).heap.size = w.heap.size := by simp
  have hk : ∀ v xs, Sl eB w.heap.size w v xs → Sl eB (((w.setCell ⟨q, 0, none⟩ (.int .i64 G)).setCell ⟨q, 1, none⟩ (.int .i64 PL)).setCell ⟨q, 2, none⟩ (.slice A l c)).heap.size (((w.setCell ⟨q, 0, none⟩ (.int .i64 G)).setCell ⟨q, 1, none⟩ (.int .i64 PL)).setCell ⟨q, 2, none⟩ (.slice A l c)) v xs := fun v xs h => by
   rw [hsz]
   exact sl_setfr (sl_setfr (sl_setfr h e3 0 _) r1 1 _) r2 2 _
  unfold BkS
  rw [upd_same, upd_other D (show 16 ≠ 19 by decide), upd_other D (show 17 ≠ 19 by decide), upd_other D (show 18 ≠ 19 by decide)]
  refine ⟨((s0.setCell (p := ⟨q, 0, none⟩) e2 _).setCell (p := ⟨q, 1, none⟩) e2 _).setCell (p := ⟨q, 2, none⟩) e2 _, fun h1 => hk _ _ (s1 h1), fun _ => ⟨_, hg, hk _ _ e5⟩, fun _ h => (by cases h), fun _ => ⟨q, _, hq, e2, r3, hk _ _ e5⟩, s5, fun _ => ⟨h17, h18⟩⟩
end
end Go.Proofs.YtjclfkbhakjdaaaDoor
