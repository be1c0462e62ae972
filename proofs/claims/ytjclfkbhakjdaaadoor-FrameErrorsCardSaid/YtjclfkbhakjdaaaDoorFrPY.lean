import Derived.Test.YtjclfkbhakjdaaaDoorFrOY
namespace Go.Proofs.YtjclfkbhakjdaaaDoor
open Go.RowKit Go.Shelf
attribute [local go_sem] Oper.semAt_some run_store_func
theorem unb_ne (n : Nat) (x : List UInt8) (m : Int) (h : unbG n x = .error m) : m ≠ 0 := by
 unfold unbG at h
 split at h
 · split at h
   · cases h; decide
   · split at h
     · cases h
     · cases h; decide
 · cases h; decide
theorem bak_ne {n k : Nat} {x : List UInt8} {m : Int} (h : bakG n k x = .error m) : m ≠ 0 := by
 have h' : bindG (bindG (unbG n x) (Tu.backG 65)) (fun t => Tr.eachG Tr.backG t 26 k) = .error m := h
 cases h1 : unbG n x with
 | error e => rw [h1] at h'; cases h'; exact unb_ne _ _ _ h1
 | ok y =>
   rw [h1] at h'
   have h2 : bindG (Tu.backG 65 y) (fun t => Tr.eachG Tr.backG t 26 k) = .error m := h'
   cases h3 : Tu.backG 65 y with
   | error e => rw [h3] at h2; cases h2; exact turnback_ne _ _ _ h3
   | ok t =>
     rw [h3] at h2
     exact each_ne _ _ _ _ h2
set_option maxRecDepth 100000 in
set_option maxHeartbeats 4000000 in
theorem back_geo (P D R : Int) (hM : ¬ Sh.May P D R) (sv : Value) (x : List UInt8) (w : World) (hT : Tabs w) (hS : Sl eB w.heap.size w sv x) :
    Calls Tryd.prog 27 #[shV P D R, sv] w fun e w' => e = .panicked (errno 180) ∧ Below w.heap.size w w' := by
  have hcl : (shV P D R).cells = shB P D R := rfl
  obtain ⟨W0, hW0⟩ : ∃ W0, (w.alloc (.cells (shB P D R) 23)).alloc (.cells (frB 0 0 (.slice none 0 0)) 26) = W0 := ⟨_, rfl⟩
  have hA : Below w.heap.size w W0 := by rw [← hW0]; exact (below_alloc w _).alloc (by simp) _
  have hr0 : Rowed W0 w.heap.size 23 (shB P D R) := by rw [← hW0]; exact (Rowed.new w 23 _).alloc _
  have hq1 := Sh.Check_no P D R hM W0 (hT.below hA).2.2.2.2
  obtain ⟨A, c, rfl⟩ := hS.len
  have k0 := hr0.cell 0
  have k1 := hr0.cell 1
  have k2 := hr0.cell 2
  clear hS hT hM hr0
  go_enter Tryd.func27, Tryd.ntmps27
  go_wp2_with fail
  go_at_call 30
  refine hq1.mono ?_
  rintro e w1 ⟨rfl, hB1⟩
  have hBt := below_trans hA hB1
  clear k0 k1 k2 hq1 hW0
  go_wp2_with fail
  go_at_call 18
  refine (must_no 180 (by decide) _).mono ?_
  rintro e w2 ⟨rfl, rfl⟩
  go_wp2_with fail
  exact ⟨rfl, rfl, hBt⟩
set_option maxRecDepth 100000 in
set_option maxHeartbeats 4000000 in
theorem back_arg (k : Nat) (hk : k < 5) (D R : Int) (hr : Sh.restOk D R) (sv : Value) (x : List UInt8) (hl : ¬ (x.length : Int) = Sh.innerK k) (w : World) (hT : Tabs w) (hS : Sl eB w.heap.size w sv x) :
    Calls Tryd.prog 27 #[shV (Sh.pay k) D R, sv] w fun e w' => e = .panicked (errno 2) ∧ Below w.heap.size w w' := by
  have hcl : (shV (Sh.pay k) D R).cells = shB (Sh.pay k) D R := rfl
  obtain ⟨W0, hW0⟩ : ∃ W0, (w.alloc (.cells (shB (Sh.pay k) D R) 23)).alloc (.cells (frB 0 0 (.slice none 0 0)) 26) = W0 := ⟨_, rfl⟩
  have hA : Below w.heap.size w W0 := by rw [← hW0]; exact (below_alloc w _).alloc (by simp) _
  have hr0 : Rowed W0 w.heap.size 23 (shB (Sh.pay k) D R) := by rw [← hW0]; exact (Rowed.new w 23 _).alloc _
  have hq1 := Sh.Check_yes (Sh.pay k) D R (Sh.may_at hk hr) W0 (hT.below hA).2.2.2.2
  have HQ2 := Lib.hid (fun W (h : Below W0.heap.size W0 W) => Sh.Inner_yes k hk D R hr W ((hT.below hA).below h).2.2.2.2)
  have hle : ((x.length : Int) == Sh.innerK k) = false := by rw [beq_eq_false_iff_ne]; exact hl
  generalize Sh.innerK k = IN at *
  obtain ⟨A, c, rfl⟩ := hS.len
  generalize Sh.pay k = P at *
  have k0 := hr0.cell 0
  have k1 := hr0.cell 1
  have k2 := hr0.cell 2
  clear hS hT hr hk hl
  go_enter Tryd.func27, Tryd.ntmps27
  go_wp2_with fail
  go_at_call 30
  refine hq1.mono ?_
  rintro e w1 ⟨rfl, hB1⟩
  have hr1 := (hB1.block _ hr0.lt).trans hr0
  have hr1 : Rowed w1 w.heap.size 23 (shB P D R) := hr1
  have j0 := hr1.cell 0
  have j1 := hr1.cell 1
  have j2 := hr1.cell 2
  have hq := HQ2.out w1 hB1
  have hBt := below_trans hA hB1
  clear k0 k1 k2 hr1 hr0 hq1 hW0 hB1 hA
  go_wp2_with fail
  go_at_call 18
  refine (must_ok _).mono ?_
  rintro e w2 ⟨rfl, rfl⟩
  go_wp2_with fail
  go_at_call 40
  refine hq.mono ?_
  rintro e w2 ⟨rfl, hB2⟩
  have hBt2 := below_trans hBt hB2
  go_wp2_with fail
  exact ⟨rfl, rfl, hBt2⟩
def kOf (P : Int) : Nat := ((P - 2) / 5).toNat
def frmG (P D R : Int) (b : List UInt8) : Except Int (Int × Int × List UInt8) :=
 if chkF P D R (grpG b) (plcG b) (b.length - 3) = 0 then .ok (grpG b, plcG b, b.drop 3) else .error (chkF P D R (grpG b) (plcG b) (b.length - 3))
def backF (P D R : Int) (x : List UInt8) : Except Int (Int × Int × List UInt8) :=
 if Sh.May P D R then
   if (x.length : Int) = Sh.innerK (kOf P) then
     match bakG (idxG (kOf P)) (kOf P + 1) x with
     | .error e => .error e
     | .ok b => frmG P D R b
   else .error 2
 else .error 180
theorem kOf_pay (k : Nat) : kOf (Sh.pay k) = k := by unfold kOf Sh.pay; omega
def BackIs (w : World) (r : Except Int (Int × Int × List UInt8)) (e : Ending) (w' : World) : Prop :=
 Below w.heap.size w w' ∧ ((∃ G PL pay v, r = .ok (G, PL, pay) ∧ e = .returned (frV G PL v) ∧ Sl eB w'.heap.size w' v pay) ∨ ∃ m, r = .error m ∧ m ≠ 0 ∧ e = .panicked (errno m))
theorem back_any (P D R : Int) (sv : Value) (x : List UInt8) (w : World) (hT : Tabs w) (hS : Sl eB w.heap.size w sv x) :
    Calls Tryd.prog 27 #[shV P D R, sv] w fun e w' => BackIs w (backF P D R x) e w' := by
  by_cases hM : Sh.May P D R
  · obtain ⟨k, hk, rfl⟩ := Sh.payOk_at hM.1
    by_cases hl : (x.length : Int) = Sh.innerK k
    · cases hb : bakG (idxG k) (k + 1) x with
      | error m =>
        have hf : backF (Sh.pay k) D R x = .error m := by unfold backF; rw [if_pos hM, kOf_pay, if_pos hl, hb]
        rw [hf]
        refine (back_err k hk D R hM.2 sv x hl w hT hS m hb).mono ?_
        rintro e w' ⟨rfl, hB⟩
        exact ⟨hB, .inr ⟨m, rfl, bak_ne hb, rfl⟩⟩
      | ok y =>
        have hf : backF (Sh.pay k) D R x = frmG (Sh.pay k) D R y := by unfold backF; rw [if_pos hM, kOf_pay, if_pos hl, hb]
        rw [hf]
        refine (back_ok k hk D R hM.2 sv x hl w hT hS y hb).mono ?_
        rintro e w' ⟨hB, ⟨hc, v, rfl, hv⟩ | ⟨hc, rfl⟩⟩
        · exact ⟨hB, .inl ⟨_, _, _, v, by unfold frmG; rw [if_pos hc], rfl, hv⟩⟩
        · exact ⟨hB, .inr ⟨_, by unfold frmG; rw [if_neg hc], hc, rfl⟩⟩
    · have hf : backF (Sh.pay k) D R x = .error 2 := by unfold backF; rw [if_pos hM, kOf_pay, if_neg hl]
      rw [hf]
      refine (back_arg k hk D R hM.2 sv x hl w hT hS).mono ?_
      rintro e w' ⟨rfl, hB⟩
      exact ⟨hB, .inr ⟨2, rfl, by decide, rfl⟩⟩
  · have hf : backF P D R x = .error 180 := if_neg hM
    rw [hf]
    refine (back_geo P D R hM sv x w hT hS).mono ?_
    rintro e w' ⟨rfl, hB⟩
    exact ⟨hB, .inr ⟨180, rfl, by decide, rfl⟩⟩
set_option maxRecDepth 100000 in
set_option maxHeartbeats 4000000 in
theorem Back1_any (P D R : Int) (sv : Value) (x : List UInt8) (b0 b1 gx : Nat) (w : World) (h0 : Rowed w b0 23 (shB P D R)) (h1 : Boxed w b1 24 sv) (hx : Rowed w gx 26 (frB 0 0 (.slice none 0 0))) (hT : Tabs w) (hS : Sl eB w.heap.size w sv x) :
    Calls Tryd.prog 26 #[.pointer (some ⟨b0, 0, none⟩), .pointer (some ⟨b1, 0, none⟩), .pointer (some ⟨gx, 0, none⟩)] w fun e w' => ∃ W2, Below w.heap.size w W2 ∧
      ((∃ G PL pay A l c, backF P D R x = .ok (G, PL, pay) ∧ e = .returned (.tuple #[]) ∧ Sl eB W2.heap.size W2 (.slice A l c) pay ∧ Rowed W2 gx 26 (frB 0 0 (.slice none 0 0)) ∧ w' = ((W2.setCell ⟨gx, 0, none⟩ (.int .i64 G)).setCell ⟨gx, 1, none⟩ (.int .i64 PL)).setCell ⟨gx, 2, none⟩ (.slice A l c)) ∨
       ∃ m, backF P D R x = .error m ∧ m ≠ 0 ∧ e = .panicked (errno m) ∧ w' = W2) := by
  have hq := back_any P D R sv x w hT hS
  have k0 := h0.cell 0
  have k1 := h0.cell 1
  have k2 := h0.cell 2
  have kb := h1.cell
  obtain ⟨A, c, rfl⟩ := hS.len
  generalize backF P D R x = BF at *
  clear hS hT
  go_enter Tryd.func26, Tryd.ntmps26
  go_wp2_with fail
  go_at_call 27
  refine hq.mono ?_
  rintro e w1 ⟨hB, ⟨G, PL, pay, v, rfl, rfl, hv⟩ | ⟨m, rfl, hm, rfl⟩⟩
  · have hx1 : Rowed w1 gx 26 (frB 0 0 (.slice none 0 0)) := (hB.block _ hx.lt).trans hx
    have z0 := hx1.cell 0
    have z1 := hx1.cell 1
    have z2 := hx1.cell 2
    have zf := hx1.frozen
    obtain ⟨Av, cv, rfl⟩ := hv.len
    have HX := Lib.hid hx1
    have HV := Lib.hid hv
    clear hq k0 k1 k2 kb hx1 hv
    go_wp2_with fail
    go_end0
    exact ⟨w1, hB, .inl ⟨G, PL, pay, _, _, _, rfl, rfl, HV.out, HX.out, rfl⟩⟩
  · clear hq k0 k1 k2 kb
    go_wp2_with fail
    exact ⟨rfl, w1, hB, .inr ⟨m, rfl, hm, rfl, rfl⟩⟩
end Go.Proofs.YtjclfkbhakjdaaaDoor
