/- SumsBits. -/
import Derived.Test.YtheealkoooiloaaDoorSuO
namespace Go.Proofs.YtheealkoooiloaaDoor
open Go.RowKit Go.Shelf
attribute [local go_sem] Oper.semAt_some run_store_func

theorem flip_bit (y : UInt8) (h : y.toNat ≤ 1) : ∃ y' : UInt8, y' ≠ y ∧ bits .xor .u8 (y.toNat : Int) 1 = (y'.toNat : Int) := by
  rcases (show y.toNat = 0 ∨ y.toNat = 1 by omega) with e | e
  · have : y = 0 := UInt8.toNat_inj.1 e
    subst this
    exact ⟨1, by decide, by kernel_rfl⟩
  · have : y = 1 := UInt8.toNat_inj.1 e
    subst this
    exact ⟨0, by decide, by kernel_rfl⟩
/-- What Unpack gives of bits that are not these sums'. -/
def UnOther (a b c : Int) (n : Int) (l : List UInt8) : Prop := ∀ (v : Value) (w : World), Sl eB w.heap.size w v l → Calls Tryd.prog 13 #[v, .int .i64 n] w fun e w' => Below w.heap.size w w' ∧ ∃ a' b' c' m, e = .returned (.tuple #[v3 a' b' c', .int .i64 m]) ∧ ((m != 0) || !(a' == a && (b' == b && c' == c))) = true
theorem un_other (a b c : Nat) (n : Int) (l : List UInt8) (h : unG l n ≠ some (a, b, c)) : UnOther a b c n l := by
  intro v w hS
  refine (Unpack_any v l n w hS).mono ?_
  rintro e w' ⟨hB, ⟨a', b', c', hy, rfl⟩ | ⟨hm, rfl⟩⟩
  · refine ⟨hB, a', b', c', 0, rfl, ?_⟩
    by_cases e1 : a' = a
    · by_cases e2 : b' = b
      · by_cases e3 : c' = c
        · subst e1 e2 e3; exact absurd hy h
        · have : ((c' : Int) == (c : Int)) = false := by rw [beq_eq_false_iff_ne]; omega
          rw [this]; simp
      · have : ((b' : Int) == (b : Int)) = false := by rw [beq_eq_false_iff_ne]; omega
        rw [this]; simp
    · have : ((a' : Int) == (a : Int)) = false := by rw [beq_eq_false_iff_ne]; omega
      rw [this]; simp
  · exact ⟨hB, 0, 0, 0, 2, rfl, by simp⟩
set_option maxRecDepth 100000 in
set_option maxHeartbeats 4000000 in
theorem SumsBits_yes (a b c n : Nat) (z : Int) (h2 : 2 ≤ n) (h1 : n ≤ 1000) (h : rightB a b c n = true) (w : World) (hT : Tab w) :
    Calls Tryd.prog 7 #[v3 a b c, .int .i64 n, .int .i64 z] w fun e w' => e = .returned (.bool true) ∧ Below w.heap.size w w' := by
  have hR := fun w => refRight_any a b c n w
  have hP := fun w => Pack_own a b c n h2 h1 h w
  rw [h] at hR
  have hw := wakes_any
  have hL := fun w => Long_yes n h2 h1 w
  have hpl := packL_length a b c n
  have hev := long_even n
  have hl5 : 0 < longN n ∧ longN n ≤ 26 := by
    have := tb_le n h1
    have := wb_le n h1
    unfold longN zb
    omega
  have hU := fun v w => Unpack_yes (packL a b c n) n a b c (unG_pack a b c n h) v w
  obtain ⟨p, hp, hat⟩ := at_is z (longN n) hl5.1 (by omega)
  have hyle := pack_le a b c n p
  have hat0 : (packL a b c n)[p]? = some (atB (packL a b c n) p) := atB_lt (by omega)
  obtain ⟨y', hy', hxor⟩ := flip_bit _ hyle
  have hO := un_other a b c n _ (unG_flip a b c n p h hp y' hy')
  have hset2 : ((packL a b c n).set p y').set p 2 = (packL a b c n).set p 2 := List.set_set ..
  have hX := fun v w => Unpack_no _ n (unG_bad (packL a b c n) n p (by omega)) v w
  generalize atB (packL a b c n) p = y at *
  have hpl1 : ((packL a b c n).set p y').length = longN n := by simpa using hpl
  have hpl2 : ((packL a b c n).set p 2).length = longN n := by simpa using hpl
  generalize packL a b c n = PL at *
  generalize longN n = L at *
  clear hyle hy' h h1 h2
  have g1 : ((L : Int) != (L : Int)) = false := by simp
  have g2 : ((L : Int).tmod 2 != 0) = false := by
    have : (L : Int).tmod 2 = 0 := by rw [Int.tmod_eq_emod_of_nonneg (by omega)]; omega
    rw [this]; rfl
  have g2' : ((L : Int) % 2 != 0) = false := by
    have : (L : Int) % 2 = 0 := by omega
    rw [this]; rfl
  have g3 : ((L : Int) == 0) = false := by rw [beq_eq_false_iff_ne]; omega
  have hSelf := fun w => eqS a b c a b c w
  simp only [beq_self_eq_true, Bool.and_self] at hSelf
  have hcl : (v3 a b c).cells = c3 a b c := rfl
  have hr := Rowed.new w 24 (c3 a b c)
  have hA := below_alloc w (.cells (c3 a b c) 24)
  have hlt := hr.lt
  have k0 := hr.cell 0
  have k1 := hr.cell 1
  have k2 := hr.cell 2
  simp at k0 k1 k2
  have Hpl := Lib.hid hpl
  have Hpl1 := Lib.hid hpl1
  have Hpl2 := Lib.hid hpl2
  have Hev := Lib.hid hev
  clear hpl hpl1 hpl2 hev
  go_enter Tryd.func7, Tryd.ntmps7
  go_wp2_with fail
  generalize w.alloc (.cells (c3 a b c) 24) = w0 at *
  go_at_call 18
  refine (hR _).mono ?_
  rintro e w1 ⟨rfl, hB1⟩
  have hr1 := hr.below hB1 hlt
  have hA1 := hA.trans (hB1.mono hA.size)
  have hlt1 := hr1.lt
  have k0 := hr1.cell 0
  have k1 := hr1.cell 1
  have k2 := hr1.cell 2
  simp at k0 k1 k2
  clear hR hB1 hr hA hlt
  go_wp2_with fail
  go_at_call 11
  refine (hP _).mono ?_
  rintro e w2 ⟨hB2, v, rfl, hv, hfr⟩
  obtain ⟨g, cap, cur, rfl, hob, hcap, hrow, hRL⟩ := own_rowed hv (by rw [Hpl.out]; exact hl5.1)
  have hgf : w1.heap.size ≤ g := hfr g hob
  have hr2 := hr1.below hB2 hlt1
  have hA2 := hA1.trans (hB2.mono hA1.size)
  have hgl2 := hrow.lt
  have hsl2 := sl_rowed hrow hRL hcap
  have hlt2 := hr2.lt
  rw [Hpl.out] at hsl2 hcap ⊢
  clear hP hB2 hr1 hA1 hv hfr hob
  go_wp2_with fail
  go_at_call 13
  refine (hU _ _ hsl2).mono ?_
  rintro e w3 ⟨rfl, hB3⟩
  have hrow3 := (hrow.below hB3 hgl2).alloc (.cells (c3 a b c) 24)
  have hr3 := (hr2.below hB3 hlt2).alloc (.cells (c3 a b c) 24)
  have hs3 := Rowed.new w3 24 (c3 a b c)
  have hA3 := (hA2.trans (hB3.mono hA2.size)).alloc (Nat.le_trans hA2.size hB3.size) (.cells (c3 a b c) 24)
  have hlt3 := hr3.lt
  have hgl3 := hrow3.lt
  have t0 := hs3.cell 0
  have t1 := hs3.cell 1
  have t2 := hs3.cell 2
  have k0 := hr3.cell 0
  have k1 := hr3.cell 1
  have k2 := hr3.cell 2
  simp at t0 t1 t2 k0 k1 k2
  clear hU hB3 hrow hr2 hA2 hsl2
  go_wp2_with fail
  have hL0 : ¬ (L : Int) = 0 := by omega
  have hL0' : ¬ L = 0 := by omega
  have hpL : (p : Int) < L := by omega
  have hgh : w.heap.size ≠ g := by omega
  have hgw : w.heap.size ≤ g := by omega
  clear t0 t1 t2 hs3 hgf hlt1
  generalize w3.alloc (.cells (c3 a b c) 24) = w4 at *
  generalize w3.heap.size = g3b at *
  go_at_call 19
  refine (hL _).mono ?_
  rintro e w5 ⟨rfl, hB5⟩
  have hrow5 := hrow3.below hB5 hgl3
  have hr5 := hr3.below hB5 hlt3
  have hA5 := hA3.trans (hB5.mono hA3.size)
  have cy : w5.cell? ⟨g, p, none⟩ = some (eB y) := by rw [hrow5.cell p]; exact hRL p y hat0
  have fy := hrow5.frozen p
  have hrow6 := hrow5.set p (eB y')
  have hRL6 := hRL.put p y'
  have hr6 := hr5.other g p (eB y') hgh
  have hA6 := hA5.setCell (p := ⟨g, p, none⟩) (by exact hgw) (eB y')
  have hgl6 := hrow6.lt
  have hlt6 := hr6.lt
  have hsl6 := sl_rowed hrow6 hRL6 (cap := cap) (by rw [Hpl1.out]; exact hcap)
  rw [Hpl1.out] at hsl6
  clear hL hB5 hrow3 hr3 hA3 hlt3 hgl3 k0 k1 k2 hgl2 hlt2 hRL
  go_upto_region 10 with fail
  clear cy fy hat0 hxor hrow5 hr5 hA5 hat
  generalize w5.setCell ⟨g, p, none⟩ (eB y') = w6 at *
  go_wp2_with fail
  go_at_call 13
  refine (hO _ _ hsl6).mono ?_
  rintro e w7 ⟨hB7, a', b', c', m, rfl, hcond⟩
  have hrow7 := (hrow6.below hB7 hgl6).alloc (.cells (c3 a' b' c') 24)
  have hr7 := (hr6.below hB7 hlt6).alloc (.cells (c3 a' b' c') 24)
  have hs7 := Rowed.new w7 24 (c3 a' b' c')
  have hA7 := (hA6.trans (hB7.mono hA6.size)).alloc (Nat.le_trans hA6.size hB7.size) (.cells (c3 a' b' c') 24)
  have hgl7 := (hrow6.below hB7 hgl6).lt
  have hlt7 := (hr6.below hB7 hlt6).lt
  clear hO hB7 hrow6 hr6 hA6 hgl6 hlt6 hsl6
  go_upto_region 11 with fail
  generalize hw8 : w7.alloc (.cells (c3 a' b' c') 24) = w8 at *
  generalize hg7 : w7.heap.size = g7 at *
  have hg7g : g7 ≠ g := by omega
  have cy := hrow7.lt
  have fy := hrow7.frozen p
  obtain ⟨o8, co8⟩ : ∃ o, w8.cell? ⟨g, p, none⟩ = some o := by
    have hpp : (PL.set p y')[p]? = some y' := by rw [List.getElem?_set, if_pos rfl, if_pos (by rw [Hpl.out]; exact hp)]
    exact ⟨_, by rw [hrow7.cell p]; exact hRL6 p y' hpp⟩
  have hrow9 := hrow7.set p (eB 2)
  have hRL9 := hRL6.put p 2
  rw [hset2] at hRL9
  have hr9 := hr7.other g p (eB 2) hgh
  have hs9 := hs7.other g p (eB 2) hg7g
  have hA9 := hA7.setCell (p := ⟨g, p, none⟩) (by exact hgw) (eB 2)
  have hgl9 := hrow9.lt
  have hlt9 := hr9.lt
  have hls9 := hs9.lt
  have hsl9 := sl_rowed hrow9 hRL9 (cap := cap) (by rw [Hpl2.out]; exact hcap)
  rw [Hpl2.out] at hsl9
  clear hw8 hg7
  go_upto_region 12 with fail
  clear hrow7 hr7 hs7 hA7 co8 cy fy
  have h2e : (Value.int .u8 2) = eB 2 := rfl
  rw [h2e]
  generalize w8.setCell ⟨g, p, none⟩ (eB 2) = w9 at *
  go_wp2_with fail
  go_at_call 13
  refine (hX _ _ hsl9).mono ?_
  rintro e wa ⟨rfl, hBa⟩
  have hra := (hr9.below hBa hlt9).alloc (.cells (c3 0 0 0) 24)
  have hsa := (hs9.below hBa hls9).alloc (.cells (c3 0 0 0) 24)
  have hAa := (hA9.trans (hBa.mono hA9.size)).alloc (Nat.le_trans hA9.size hBa.size) (.cells (c3 0 0 0) 24)
  clear hX hBa hrow9 hr9 hs9 hA9 hgl9 hlt9 hls9 hsl9 hRL9 hRL6
  go_upto_region 13 with fail
  generalize wa.alloc (.cells (c3 0 0 0) 24) = wb at *
  generalize wa.heap.size = ga at *
  have k0 := hra.cell 0
  have k1 := hra.cell 1
  have k2 := hra.cell 2
  have t0 := hsa.cell 0
  have t1 := hsa.cell 1
  have t2 := hsa.cell 2
  simp at k0 k1 k2 t0 t1 t2
  have hEq := fun w => eqS a' b' c' a b c w
  generalize (a' == (a : Int) && (b' == (b : Int) && c' == (c : Int))) = q at *
  clear hSelf
  cases hm : (m != 0) with
  | true =>
    go_wp2_with (go_at_call 8; refine (hw _ (hT.stays hAa)).mono ?_; rintro e w' ⟨rfl, hB⟩)
    go_ret
    exact ⟨rfl, hAa.trans (hB.mono hAa.size)⟩
  | false =>
    rw [hm, Bool.false_or] at hcond
    have hq : q = false := by simpa using hcond
    subst hq
    go_wp2_with (go_at_call 8; refine (hw _ (hT.stays hAa)).mono ?_; rintro e w' ⟨rfl, hB⟩)
    go_ret
    exact ⟨rfl, hAa.trans (hB.mono hAa.size)⟩
theorem SumsBits_any (a b c n z : Int) (w : World) (hT : Tab w) :
    Calls Tryd.prog 7 #[v3 a b c, .int .i64 n, .int .i64 z] w fun e w' => e = .returned (.bool true) ∧ Below w.heap.size w w' := by
  cases h : rightB a b c n with
  | false => exact SumsBits_no a b c n z h w hT
  | true =>
    obtain ⟨a', b', c', n', rfl, rfl, rfl, rfl, h2, h1, _⟩ := rightB_nat h
    exact SumsBits_yes a' b' c' n' z h2 h1 h w hT
end Go.Proofs.YtheealkoooiloaaDoor
