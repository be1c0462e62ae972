/- The walk of CrcSums. -/
import Derived.Test.YtnnhijfgbdhmiaaCrT
import Derived.Deep.DeepCutAuto
import Derived.Deep.Cut
import Derived.Deep.CutRange
namespace Go.Proofs.Ytnnhijfgbdhmiaa
open Go.RowKit Go.Shelf
attribute [local go_sem] Oper.semAt_some run_store_func

theorem Rows2.two {B : Nat} {W : World} {sv v1 v2 : Value} {b1 b2 : List UInt8} (h : Sl (fun v => v) B W sv [v1, v2]) (h1 : Sl eB B W v1 b1) (h2 : Sl eB B W v2 b2) : Rows2 B W sv [b1, b2] :=
  ⟨[v1, v2], h, rfl, fun i v' bs' e1 e2 => by
    rcases i with _ | _ | i
    · simp at e1 e2; subst e1 e2; exact h1
    · simp at e1 e2; subst e1 e2; exact h2
    · simp at e1⟩
/-- Sum of one row, that is laid in a slice of its own ahead of the call. -/
theorem Sum_one (v : Value) (bs : List UInt8) (hr : bs.length ≤ 140737488351232) (w : World) (hv : Sl eB w.heap.size w v bs) :
    Calls Try.prog 6 #[.slice (some ⟨w.heap.size, 0, none⟩) 1 1] (w.alloc (.cells #[v] 22)) fun e w' => e = .returned (wV (sumW bs)) ∧ Below w.heap.size w w' := by
  have hA := below_alloc w (.cells #[v] 22)
  have hS := Sl.new (fun v : Value => v) w [v] #[v] 22 (0, 0) 1 1 rfl (by simp) rfl
  refine (Sum_any _ [bs] (by simp) (by simpa using hr) _ (Rows2.one hS (hv.next hA))).mono ?_
  rintro e w2 ⟨rfl, hB⟩
  exact ⟨by simp, below_trans hA hB⟩

/-- Sum of a row with four bytes behind, that are laid ahead of the call. -/
theorem Sum_two (v : Value) (a : List UInt8) (f0 f1 f2 f3 : UInt8) (r : Int) (hr : ((sumW (a ++ [f0, f1, f2, f3])).toNat : Int) = r) (hl : a.length ≤ 140737488351232) (w : World) (hv : Sl eB w.heap.size w v a) :
    Calls Try.prog 6 #[.slice (some ⟨w.heap.size + 1, 0, none⟩) 2 2] ((w.alloc (.cells #[eB f0, eB f1, eB f2, eB f3] 27)).alloc (.cells #[v, .slice (some ⟨w.heap.size, 0, none⟩) 4 4] 22)) fun e w' => e = .returned (.int .u32 r) ∧ Below w.heap.size w w' := by
  have hA1 := below_alloc w (.cells #[eB f0, eB f1, eB f2, eB f3] 27)
  have hS1 := Sl.new eB w [f0, f1, f2, f3] #[eB f0, eB f1, eB f2, eB f3] 27 (0, 0) 4 4 rfl (by simp) rfl
  have hv1 := hv.next hA1
  have hsz : (w.alloc (.cells #[eB f0, eB f1, eB f2, eB f3] 27)).heap.size = w.heap.size + 1 := by simp
  generalize w.alloc _ = wa at *
  have hA2 := below_alloc wa (.cells #[v, .slice (some ⟨w.heap.size, 0, none⟩) 4 4] 22)
  have hS2 := Sl.new (fun v : Value => v) wa [v, .slice (some ⟨w.heap.size, 0, none⟩) 4 4] #[v, .slice (some ⟨w.heap.size, 0, none⟩) 4 4] 22 (0, 0) 2 2 rfl (by simp) (by simp)
  rw [hsz] at hS2
  refine (Sum_is _ [a, [f0, f1, f2, f3]] r (by simpa using hr) (by simp) (by simpa using hl) _ (Rows2.two hS2 (hv1.next hA2) (hS1.next hA2))).mono ?_
  rintro e w2 ⟨rfl, hB⟩
  exact ⟨rfl, below_trans hA1 (below_trans hA2 hB)⟩
theorem place3_ex (at_ : Int) (n : Nat) (h : 0 < n) (hn : n ≤ 9000000000000000) : ∃ p : Nat, p < n ∧ (wrap64 (at_.tmod (n : Int) + n)).tmod (n : Int) = p := by
  have h1 : at_.tmod (n : Int) < (n : Int) := Int.tmod_lt_of_pos _ (by omega)
  have h2 : -(n : Int) < at_.tmod (n : Int) := Int.lt_tmod_of_pos _ (by omega)
  generalize at_.tmod (n : Int) = t at *
  rw [IntWalk.wrap64_in (t + n) (by omega), Int.tmod_eq_emod_of_nonneg (by omega)]
  have h3 := Int.emod_nonneg (t + n) (b := (n : Int)) (by omega)
  have h4 := Int.emod_lt_of_pos (t + n) (b := (n : Int)) (by omega)
  exact ⟨((t + n) % (n : Int)).toNat, by omega, by omega⟩
theorem row_made (w : World) : (w.alloc (.cells #[] 5)).ownsRow w.heap.size 5 1 (.slice (some ⟨w.heap.size, 0, none⟩) 0 0) 0 [] :=
  World.ownsRow_made w #[] 0 (Nat.le_refl _) (by unfold maxLen; omega) rfl
/-- A row of the call's own, of which one byte is put anew. -/
theorem own_set {W : World} {base n : Nat} {v : Value} {a : List UInt8} (h : W.ownsRow base 5 1 v n (a.map eB)) (p : Nat) (y : UInt8) (hp : p < a.length) :
    ∃ g cap, v = .slice (some ⟨g, 0, none⟩) a.length cap ∧ base ≤ g ∧ g < W.heap.size ∧ W.cell? ⟨g, p, none⟩ = some (eB (a[p]'hp)) ∧ W.frozen? ⟨g, p, none⟩ = false ∧
      Sl eB W.heap.size (W.setCell ⟨g, p, none⟩ (eB y)) (.slice (some ⟨g, 0, none⟩) a.length cap) (a.set p y) := by
  have hl : a.length = n := by have := h.1; simpa using this
  subst hl
  rcases h.2 with ⟨_, h0⟩ | ⟨g, cap, cur, rfl, hb, hg, hn, hcm, hsz, htk⟩
  · omega
  have hr : Rowed W g 5 cur := hg
  have hcells : ∀ j x, a[j]? = some x → W.cell? ⟨g, j, none⟩ = some (eB x) := by
    intro j x hx
    have := World.ownsRow.cells h (g := g) rfl j (eB x) (by simp [hx])
    rwa [show (⟨g, 0, none⟩ : Addr).add j = ⟨g, j, none⟩ from by unfold Addr.add; split <;> simp_all] at this
  refine ⟨g, cap, rfl, hb, hr.lt, hcells p _ (by simp [hp]), hr.frozen p, ?_⟩
  refine ⟨some ⟨g, 0, none⟩, cap, by simp, by simpa using hn, fun _ => ⟨g, 0, rfl, hr.lt, fun j x hx => ?_⟩⟩
  have hs := hr.set p (eB y)
  rw [Nat.zero_add, hs.cell j]
  have hj : j < a.length := by have := (List.getElem?_eq_some_iff.1 hx).1; simpa using this
  have hc := hcells j a[j] (by simp)
  rw [hr.cell j] at hc
  rw [List.getElem?_set] at hx
  have hpc : p < cur.size := by
    have hc2 := hcells p a[p] (by simp)
    rw [hr.cell p] at hc2
    exact (Array.getElem?_eq_some_iff.1 hc2).1
  by_cases e : p = j
  · subst e
    rw [if_pos rfl, if_pos hp] at hx
    cases hx
    rw [Array.getElem?_setIfInBounds_self_of_lt hpc]
  · rw [if_neg e] at hx
    rw [Array.getElem?_setIfInBounds_ne e, hc]
    rw [List.getElem?_eq_getElem hj] at hx
    cases hx; rfl

set_option maxRecDepth 100000 in
set_option maxHeartbeats 4000000 in
theorem CrcSums_any (sa sb sc : Value) (a b c : List UInt8) (at_ : Int) (by_ : UInt8) (w : World) (ha : Sl eB w.heap.size w sa a) (hb : Sl eB w.heap.size w sb b) (hc : Sl eB w.heap.size w sc c) :
    Calls Try.prog 3 #[sa, sb, sc, .int .i64 at_, eB by_] w fun e w' => e = .returned (.bool true) ∧ Below w.heap.size w w' := by
  obtain ⟨Aa, ca, rfl⟩ := ha.len
  obtain ⟨Ab, cb, rfl⟩ := hb.len
  obtain ⟨Ac, cc, rfl⟩ := hc.len
  obtain ⟨N, hN⟩ : ∃ N, min (min a.length b.length) c.length = N := ⟨_, rfl⟩
  go_enter Try.func3, Try.ntmps3
  go_upto_region 1 with fail
  go_cut [11] from 17 to 23 (fun z wx => z = .int .i64 N ∧ wx = w)
  case first =>
    go_wp2_with fail
    all_goals
      go_meet
      exact ⟨by congr 1; omega, rfl⟩
  case rest =>
    obtain ⟨rfl, rfl⟩ := hcut
    by_cases h300 : 300 < a.length
    · by_cases hn300 : 300 < N
      · have d1 : decide ((300 : Int) < N) = true := decide_eq_true (by omega)
        clear hN
        go_wp2_with (go_at_call 5; refine (wakes_any _).mono ?_; rintro e w1 ⟨rfl, hB1⟩)
        go_ret
        exact ⟨rfl, hB1⟩
      · have d1 : decide ((300 : Int) < N) = false := decide_eq_false (by omega)
        have d2 : decide ((300 : Int) < a.length) = true := decide_eq_true (by omega)
        clear hN
        go_wp2_with (go_at_call 5; refine (wakes_any _).mono ?_; rintro e w1 ⟨rfl, hB1⟩)
        go_ret
        exact ⟨rfl, hB1⟩
    have hNs : N ≤ a.length ∧ N ≤ b.length ∧ N ≤ c.length := by omega
    have d1 : decide ((300 : Int) < N) = false := decide_eq_false (by omega)
    have d2 : decide ((300 : Int) < a.length) = false := decide_eq_false (by omega)
    have hx := ha.upto hNs.1
    have hy := hb.upto hNs.2.1
    have hz := hc.upto hNs.2.2
    have ka : a.length ≤ ca := by obtain ⟨_, _, e, h, _⟩ := ha; injection e with e1 e2 e3; omega
    have kb : b.length ≤ cb := by obtain ⟨_, _, e, h, _⟩ := hb; injection e with e1 e2 e3; omega
    have kc : c.length ≤ cc := by obtain ⟨_, _, e, h, _⟩ := hc; injection e with e1 e2 e3; omega
    have m1 : (N : Int) ≤ ca := by omega
    have m2 : (N : Int) ≤ cb := by omega
    have m3 : (N : Int) ≤ cc := by omega
    have m4 : (0 : Int) ≤ N := by omega
    have lx : (a.take N).length = N := by simp; omega
    have ly : (b.take N).length = N := by simp; omega
    have lz : (c.take N).length = N := by simp; omega
    have hsp := sum_put (a.take N) (b.take N) (c.take N) (by rw [lx, ly]) (by rw [lx, lz])
    have hx1 := w32_xor (sumW (a.take N)) (sumW (b.take N))
    have hx2 := w32_xor (sumW (a.take N) ^^^ sumW (b.take N)) (sumW (c.take N))
    have hla := Lib.hid (show a.length ≤ 300 by omega)
    have Lx := Lib.hid (show (a.take N).length ≤ 300 by omega)
    have Ly := Lib.hid (show (b.take N).length ≤ 300 by omega)
    have Lz := Lib.hid (show (c.take N).length ≤ 300 by omega)
    have Lp := Lib.hid (show (putOf (a.take N) (b.take N)).length ≤ 300 by rw [putOf_length]; omega)
    have Lq := Lib.hid (show (putOf (putOf (a.take N) (b.take N)) (c.take N)).length ≤ 300 by rw [putOf_length, putOf_length]; omega)
    clear lx ly lz hN hNs ka kb kc hb hc h300
    generalize a.take N = X at *
    generalize b.take N = Y at *
    generalize c.take N = Z at *
    obtain ⟨s12, h12⟩ : ∃ s, sumW X ^^^ sumW Y = s := ⟨_, rfl⟩
    rw [h12] at hsp hx1 hx2
    obtain ⟨s123, h123⟩ : ∃ s, s12 ^^^ sumW Z = s := ⟨_, rfl⟩
    rw [h123] at hsp hx2
    clear h12 h123
    go_wp2_with fail
    go_quiet (fail)
    obtain ⟨w0, hw0⟩ : ∃ w0, wc.drewN nq = w0 := ⟨_, rfl⟩
    have hB0 : Below wc.heap.size wc w0 := by rw [← hw0]; exact below_drewN _ _
    rw [hw0]
    replace ha := ha.next hB0
    replace hx := hx.next hB0
    replace hy := hy.next hB0
    replace hz := hz.next hB0
    clear hw0 m1 m2 m3 m4
    go_wp2_with fail
    go_at_call 7
    refine (put_any _ _ X Y (by have := Lx.out; omega) _ hx hy).mono ?_
    rintro e w1 ⟨v1, rfl, hv1, hB1⟩
    replace ha := ha.next hB1
    replace hx := hx.next hB1
    replace hy := hy.next hB1
    replace hz := hz.next hB1
    have hBw := below_trans hB0 hB1
    clear hB0 hB1
    go_wp2_with fail
    go_at_call 7
    refine (put_any _ _ (putOf X Y) Z (by have := Lp.out; omega) _ hv1 hz).mono ?_
    rintro e w2 ⟨v2, rfl, hv2, hB2⟩
    obtain ⟨A2, c2, rfl⟩ := hv2.len
    replace ha := ha.next hB2
    replace hx := hx.next hB2
    replace hy := hy.next hB2
    replace hz := hz.next hB2
    replace hBw := below_trans hBw hB2
    clear hB2 hv1
    go_wp2_with fail
    go_at_call 6
    refine (Sum_one _ (putOf (putOf X Y) Z) (by have := Lq.out; omega) _ hv2).mono ?_
    rintro e w3 ⟨rfl, hB3⟩
    rw [hsp]
    replace ha := ha.next hB3
    replace hx := hx.next hB3
    replace hy := hy.next hB3
    replace hz := hz.next hB3
    replace hBw := below_trans hBw hB3
    clear hB3 hv2
    go_wp2_with fail
    go_at_call 6
    refine (Sum_one _ X (by have := Lx.out; omega) _ hx).mono ?_
    rintro e w4 ⟨rfl, hB4⟩
    replace ha := ha.next hB4
    replace hy := hy.next hB4
    replace hz := hz.next hB4
    replace hBw := below_trans hBw hB4
    clear hB4 hx
    go_wp2_with fail
    go_at_call 6
    refine (Sum_one _ Y (by have := Ly.out; omega) _ hy).mono ?_
    rintro e w5 ⟨rfl, hB5⟩
    replace ha := ha.next hB5
    replace hz := hz.next hB5
    replace hBw := below_trans hBw hB5
    clear hB5 hy
    go_wp2_with fail
    go_at_call 6
    refine (Sum_one _ Z (by have := Lz.out; omega) _ hz).mono ?_
    rintro e w6 ⟨rfl, hB6⟩
    replace ha := ha.next hB6
    replace hBw := below_trans hBw hB6
    clear hB6 hz
    go_wp2_with fail
    go_at_call 6
    refine (Sum_one _ a (by have := hla.out; omega) _ ha).mono ?_
    rintro e w7 ⟨rfl, hB7⟩
    replace ha := ha.next hB7
    replace hBw := below_trans hBw hB7
    clear hB7 hx1 hx2 hsp
    go_wp2_with fail
    go_at_call 8
    refine (Four_any (sumW a) _).mono ?_
    rintro e w8 ⟨rfl, hB8⟩
    replace ha := ha.next hB8
    replace hBw := below_trans hBw hB8
    have hfour := Lib.hid (sum_four a)
    clear hB8
    go_wp2_with fail
    go_at_call 6
    refine (Sum_two _ a _ _ _ _ 558161692 (by rw [hfour.out]; rfl) (by have := hla.out; omega) _ ha).mono ?_
    rintro e w9 ⟨rfl, hB9⟩
    replace ha := ha.next hB9
    replace hBw := below_trans hBw hB9
    clear hB9 hfour
    by_cases hl0 : a.length = 0
    · have e0 : ((a.length : Int) == 0) = true := by simp [hl0]
      clear hla
      go_wp2_with (go_at_call 5; refine (wakes_any _).mono ?_; rintro e w10 ⟨rfl, hB10⟩)
      go_ret
      exact ⟨rfl, below_trans hBw hB10⟩
    have e0 : ((a.length : Int) == 0) = false := by simp; intro e; exact hl0 (by simp [e])
    by_cases hb0 : by_ = 0
    · have e1 : ((by_.toNat : Int) == 0) = true := by rw [hb0]; rfl
      clear hb0 hla
      go_wp2_with (go_at_call 5; refine (wakes_any _).mono ?_; rintro e w10 ⟨rfl, hB10⟩)
      go_ret
      exact ⟨rfl, below_trans hBw hB10⟩
    have e1 : ((by_.toNat : Int) == 0) = false := by
      have : by_.toNat ≠ 0 := fun e => hb0 (UInt8.toNat_inj.1 e)
      simp only [beq_eq_false_iff_ne]
      omega
    obtain ⟨p, hp, hpe⟩ := place3_ex at_ a.length (by omega) (by have := hla.out; omega)
    have Hpe := Lib.hid hpe
    have hz : ¬ (a.length : Int) = 0 := by omega
    have Hb0 := Lib.hid hb0
    obtain ⟨i0, hi, hz0, hz1, hz2⟩ := info_parts info_u8
    clear hl0 hb0 hpe
    have hrow := row_made w9
    have hB1 : Below w9.heap.size w9 (w9.alloc (.cells #[] 5)) := (Below.refl _ _).alloc (Nat.le_refl _) _
    have ha1 := ha.next hB1
    have q1 : 0 + a.length ≤ maxLen := by have := hla.out; unfold maxLen; omega
    have q2 : (0 + a.length) * 1 ≤ 140737488355328 := by have := hla.out; omega
    go_upto_region 13 with fail
    rw [Hpe.out]
    have hxor := b8_xor (a[p]'hp) by_
    have hne := Lib.hid (sum_set a p hp (a[p]'hp ^^^ by_) (by
      intro e
      have h2 : a[p]'hp ^^^ (a[p]'hp ^^^ by_) = a[p]'hp ^^^ a[p]'hp := by rw [e]
      rw [← UInt8.xor_assoc, UInt8.xor_self, UInt8.zero_xor] at h2
      exact Hb0.out h2))
    have hset := fun (W : World) (v : Value) (base n : Nat) (h : W.ownsRow base 5 1 v n (a.map eB)) => own_set h p (a[p]'hp ^^^ by_) hp
    generalize a[p]'hp = x at *
    generalize x ^^^ by_ = y at *
    have hli : (p : Int) < a.length := by omega
    go_wp2_with (at_builtin; refine wpList_append_sl _ rfl (.tmp 87) (.tmp 88) _ rfl w9.heap.size 5 i0 (.int .u8 0) 1 Try.underlying22 hi hz0 hz1 hz2 rfl _ 0 [] hrow rfl _ _ a ha1 rfl (fun _ => rfl) q1 q2 hB1.size ?_; intro v10 w10 hown10 hg10 hat10; obtain ⟨g, cap, rfl, hgb, hgl, hcell, hfr, hSl⟩ := hset _ _ _ _ hown10)
    obtain ⟨w11, hw11⟩ : ∃ w11, w10.setCell ⟨g, p, none⟩ (eB y) = w11 := ⟨_, rfl⟩
    have hs11 : w11.heap.size = w10.heap.size := by rw [← hw11]; exact Array.size_modify
    have hB11 : Below w9.heap.size w9 w11 := by
      rw [← hw11]
      exact (hB1.trans (below_grown hrow hg10 hB1.size (Nat.le_refl _))).setCell (p := ⟨g, p, none⟩) hgb (eB y)
    rw [hw11] at hSl ⊢
    rw [← hs11] at hSl ⊢
    replace ha := ha.next hB11
    replace hBw := below_trans hBw hB11
    clear hw11 hset hcell hfr hxor hgb hgl hown10 hg10 hat10 hB1 ha1 hrow hs11 hB11
    have hls := Lib.hid (show (a.set p y).length ≤ 300 by rw [List.length_set]; exact hla.out)
    go_at_call 6
    refine (Sum_one _ (a.set p y) (by have := hls.out; omega) _ hSl).mono ?_
    rintro e w12 ⟨rfl, hB12⟩
    replace ha := ha.next hB12
    replace hBw := below_trans hBw hB12
    clear hSl hB12 hls
    go_wp2_with fail
    go_at_call 6
    refine (Sum_one _ a (by have := hla.out; omega) _ ha).mono ?_
    rintro e w13 ⟨rfl, hB13⟩
    have hneq : (((sumW (a.set p y)).toNat : Int) == ((sumW a).toNat : Int)) = false := by rw [wV_eq]; exact decide_eq_false hne.out
    have hneq2 : (((sumW (a.set p y)).toNat : Int) != ((sumW a).toNat : Int)) = true := by rw [bne, hneq]; rfl
    have hneq3 : ¬ ((sumW (a.set p y)).toNat : Int) = ((sumW a).toNat : Int) := by simpa using hneq
    generalize sumW (a.set p y) = t1 at *
    generalize sumW a = t2 at *
    clear hne
    go_wp2_with (go_at_call 5; refine (wakes_any _).mono ?_; rintro e w14 ⟨rfl, hB14⟩)
    go_ret
    exact ⟨rfl, below_trans hBw (below_trans hB13 hB14)⟩
end Go.Proofs.Ytnnhijfgbdhmiaa
