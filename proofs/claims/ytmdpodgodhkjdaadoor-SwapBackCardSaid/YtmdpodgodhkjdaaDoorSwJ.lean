/- SwapBack. -/
import Derived.Test.YtmdpodgodhkjdaaDoorSwI
namespace Go.Proofs.YtmdpodgodhkjdaaDoor
open Go.RowKit Go.Shelf
attribute [local go_sem] Oper.semAt_some run_store_func

theorem set_back (x : List UInt8) (p : Nat) (c : UInt8) (hp : p < x.length) : (x.set p c).set p (atB x p) = x := by
  rw [List.set_set]; exact set_same x p hp
theorem back_find (x : List UInt8) (p : Nat) (c : UInt8) (h2 : 2 ≤ x.length) (h1 : x.length ≤ 1000) (hx : FourL x) (hp : p < x.length) (hc : codeOf c.toNat ≠ -1) (hne : x.set p c ≠ x) :
    findG (x.set p c) (sS x x.length % 4) (sW x x.length % (6 * x.length + 1)) = .ok ((p : Int), atB x p) := by
  have hl : (x.set p c).length = x.length := by simp
  have hy := hx.set p hc
  have hu : 0 ≤ sW x x.length % (6 * x.length + 1) ∧ sW x x.length % (6 * x.length + 1) ≤ 6 * x.length := by
    have h3 := Int.emod_nonneg (sW x x.length) (b := 6 * (x.length : Int) + 1) (by omega)
    have h4 := Int.emod_lt_of_pos (sW x x.length) (b := 6 * (x.length : Int) + 1) (by omega)
    omega
  have hb := set_back x p c hp
  have hhit := hit_only (x.set p c) hy (sS x x.length % 4) (sW x x.length % (6 * x.length + 1)) p (atB x p) (by rw [hl]; exact hp) (hx p hp) hu.1 (by rw [hl]; exact hu.2) (by rw [hb, hl]) (by rw [hb, hl])
  have hno : ∀ j, j < p → hitB (x.set p c) (sS x x.length % 4) (sW x x.length % (6 * x.length + 1)) j = false := by
    intro j hj
    rw [Bool.eq_false_iff]
    intro h
    have hjl : j < (x.set p c).length := by rw [hl]; omega
    have e1 := letB_S (x.set p c) (sS x x.length % 4) j hjl (by omega) (by omega)
    have e2 := (hit_iff (x.set p c) _ _ j hjl hu.1 (by rw [hl]; exact hu.2)).1 h
    rw [hl] at e1 e2
    have h4 : ∀ k, k < x.length → codeOf (atB ((x.set p c).set j (letB (x.set p c) (sS x x.length % 4) j)) k).toNat ≠ -1 := fun k hk => hy.set j (c := letB (x.set p c) (sS x x.length % 4) j) (letterOf_ok _) k (by simpa using hk)
    have e3 := swap_same x p j c _ h2 hp (by omega) hx h4 e1 e2
    have e4 : atB ((x.set p c).set j (letB (x.set p c) (sS x x.length % 4) j)) p = c := by
      rw [atB_set_other _ _ (by omega), atB_set x p c hp]
    rw [e3] at e4
    rw [← e4] at hne
    exact hne (set_same x p hp)
  rw [findG, four_sums _ (by omega) (by omega) hy]
  simp only
  rw [if_neg, if_neg (by rw [hl]; omega), hl, find_first hp hhit.1 hno]
  · simp only [← hhit.2]
  · rintro ⟨e1, e2⟩
    rw [hl] at e1 e2
    refine hne ?_
    have := swap_same x p p c c h2 hp hp hx (by rw [List.set_set]; exact fun k hk => hy k (by rw [hl]; exact hk)) (by rw [List.set_set]; exact e1) (by rw [List.set_set]; exact e2)
    rwa [List.set_set] at this
theorem same_find (x : List UInt8) (h2 : 2 ≤ x.length) (h1 : x.length ≤ 1000) (hx : FourL x) : findG x (sS x x.length % 4) (sW x x.length % (6 * x.length + 1)) = .ok (-1, 0) := by
  rw [findG, four_sums _ h2 h1 hx]
  simp
theorem back_swap (x : List UInt8) (p : Nat) (c : UInt8) (h2 : 2 ≤ x.length) (h1 : x.length ≤ 1000) (hx : FourL x) (hp : p < x.length) (hc : codeOf c.toNat ≠ -1) :
    swapG (x.set p c) (sS x x.length % 4) (sW x x.length % (6 * x.length + 1)) = .ok x := by
  by_cases hne : x.set p c = x
  · rw [hne, swapG, same_find x h2 h1 hx]
    simp
  · rw [swapG, back_find x p c h2 h1 hx hp hc hne]
    simp only
    rw [if_neg (by omega), byG_ok (x.set p c) p (atB x p) (by simpa using h2) (by simpa using h1) (hx.set p hc) (by simpa using hp) (hx p hp), set_back x p c hp]
set_option maxRecDepth 100000 in
set_option maxHeartbeats 4000000 in
theorem SwapBack_main (v0 : Value) (l : List Int) (z1 c : Int) (w : World) (hS : Sl eI w.heap.size w v0 l) (hT : Tab w) (h2 : 2 ≤ l.length) (h1 : l.length ≤ 300) :
    Calls Tryd.prog 9 #[v0, .int .i64 z1, .int .i64 c] w fun e w' => e = .returned (.bool true) ∧ Below w.heap.size w w' := by
  have hw := wakes_any
  have hrw := row_any v0 l (by omega) w hS
  obtain ⟨A0, c0, rfl⟩ := hS.len
  have hxl := textL_length l
  have hx4 := textL_FourL l
  obtain ⟨p, hp, hat1⟩ := at_isB z1 l.length (by omega) (by omega)
  have d1 : decide ((l.length : Int) < 2) = false := decide_eq_false (by omega)
  have d2 : decide ((300 : Int) < (l.length : Int)) = false := decide_eq_false (by omega)
  have hy4 := hx4.set p (letterOf_ok c)
  have hyl : ((textL l).set p (letterOf c)).length = l.length := by simp [hxl]
  have hBy1 := fun v w => By_yes _ p _ _ (byG_ok (textL l) p (letterOf c) (by omega) (by omega) hx4 (by omega) (letterOf_ok c)) (by omega) v w
  have hO1 := rOf_four (textL l) (by omega) (by omega) hx4
  have hSw := back_swap (textL l) p (letterOf c) (by omega) (by omega) hx4 (by omega) (letterOf_ok c)
  have hSy := fun v w => Swap_yes _ _ _ _ hSw (by omega) v w
  have hFi : (textL l).set p (letterOf c) = textL l ∨ ((textL l).set p (letterOf c) ≠ textL l ∧ findG ((textL l).set p (letterOf c)) (sS (textL l) (textL l).length % 4) (sW (textL l) (textL l).length % (6 * (textL l).length + 1)) = .ok ((p : Int), atB (textL l) p)) := by
    by_cases hne : (textL l).set p (letterOf c) = textL l
    · exact .inl hne
    · exact .inr ⟨hne, back_find _ p _ (by omega) (by omega) hx4 (by omega) (letterOf_ok c) hne⟩
  have hFs := same_find (textL l) (by omega) (by omega) hx4
  rw [hxl] at hO1 hSy hFi hFs
  have hxp : (textL l)[p]? = some (atB (textL l) p) := atB_lt (by omega)
  have Hl := Lib.hid h1
  generalize sT (textL l) l.length % (l.length : Int) = ta at *
  generalize sS (textL l) l.length % 4 = sa at *
  generalize sW (textL l) l.length % (6 * (l.length : Int) + 1) = wa at *
  generalize (textL l).set p (letterOf c) = y at *
  generalize textL l = x at *
  have hc3 := bits_and3 c
  have hic := run_acgt c
  have hc0 : 0 ≤ c % 4 := by omega
  have hc4 : c % 4 < 4 := by omega
  have n0 : ¬ (l.length : Int) = 0 := by omega
  have n0' : ¬ l.length = 0 := by omega
  have g1 : ((l.length : Int) != (l.length : Int)) = false := by simp
  have Hyl := Lib.hid hyl
  have Hxl := Lib.hid hxl
  have Hp := Lib.hid hp
  have HF := Lib.hid hFi
  have HFs := Lib.hid hFs
  have Hxp := Lib.hid hxp
  clear hS hx4 hy4 h2 h1 hp hyl hxl hFi hFs hxp hSw
  go_enter Tryd.func9, Tryd.ntmps9
  go_wp2_with fail
  go_at_call 32
  refine hrw.mono ?_
  rintro e w1 ⟨vx, rfl, hx, hB⟩
  have hx := hx.sl
  have hT := hT.below hB
  obtain ⟨Ax, cx, rfl⟩ := hx.len
  rw [Hxl.out] at hx ⊢
  clear hrw d1 d2
  go_wp2_with fail
  go_at_call 22
  refine (hO1 _ _ hx).mono ?_
  rintro e w5 ⟨rfl, hC⟩
  have hAa := below_alloc w5 (.cells (c3 ta sa wa) 36)
  have hra := Rowed.new w5 36 (c3 ta sa wa)
  have hlta := hra.lt
  have hC := below_trans hC hAa
  have hx := hx.next hC
  have hT := hT.below hC
  have hB := below_trans hB hC
  clear hC hAa hO1
  go_upto_region 6 with fail
  generalize w5.alloc (.cells (c3 ta sa wa) 36) = w6 at *
  generalize w5.heap.size = ga at *
  go_wp2_with fail
  go_at_call 29
  refine (hBy1 _ _ hT hx).mono ?_
  rintro e w3 ⟨vy, rfl, hy, hC⟩
  have hra := hra.below hC hlta
  have hlta := hra.lt
  have hx := hx.next hC
  have hT := hT.below hC
  have hB := below_trans hB hC
  clear hC hBy1 hc3 hic
  obtain ⟨Ay, cy, rfl⟩ := hy.len
  rw [Hyl.out] at hy ⊢
  obtain ⟨p0, p1, p2⟩ := cells_of_row hra
  go_wp2_with fail
  go_at_call 27
  refine (hSy _ _ hT hy).mono ?_
  rintro e w4 ⟨vz, rfl, hz, hC⟩
  have hra := hra.below hC hlta
  have hx := hx.next hC
  have hy := hy.next hC
  have hT := hT.below hC
  have hB := below_trans hB hC
  clear hC hSy hlta p0 p1 p2
  obtain ⟨Az, cz, rfl⟩ := hz.len
  rw [Hxl.out] at hz ⊢
  obtain ⟨p0, p1, p2⟩ := cells_of_row hra
  clear hra
  rcases HF.out with he | ⟨hne, hf⟩
  · have hFy := Find_yes y sa wa (-1) 0 (by rw [he]; exact HFs.out) (by rw [Hyl.out]; have := Hl.out; omega)
    clear HF HFs
    go_wp2_with fail
    go_at_call 25
    refine (hFy _ _ hT hy).mono ?_
    rintro e w7 ⟨rfl, hC⟩
    have hx := hx.next hC
    have hy := hy.next hC
    have hz := hz.next hC
    have hT := hT.below hC
    have hB := below_trans hB hC
    have s1 := same_eq _ _ _ _ _ hz hx
    have s2 := same_any _ _ x y _ _ hx hy
    rw [decide_eq_true he.symm] at s2
    clear hC hFy p0 p1 p2 hx hy hz
    go_wp2_with fail
    go_at_call 31
    refine s1.mono ?_
    rintro e w' ⟨rfl, rfl⟩
    go_wp2_with fail
    go_at_call 31
    refine s2.mono ?_
    rintro e w' ⟨rfl, rfl⟩
    go_wp2_with (go_at_call 24; refine (hw _ hT).mono ?_; rintro e w' ⟨rfl, hC⟩)
    go_ret
    exact ⟨rfl, below_trans hB hC⟩
  · have hFy := Find_yes y sa wa p (atB x p) hf (by rw [Hyl.out]; have := Hl.out; omega)
    clear HF HFs
    go_wp2_with fail
    go_at_call 25
    refine (hFy _ _ hT hy).mono ?_
    rintro e w7 ⟨rfl, hC⟩
    have hx := hx.next hC
    have hy := hy.next hC
    have hz := hz.next hC
    have hT := hT.below hC
    have hB := below_trans hB hC
    have s1 := same_eq _ _ _ _ _ hz hx
    have s2 := same_any _ _ x y _ _ hx hy
    rw [decide_eq_false (fun e => hne e.symm)] at s2
    obtain ⟨bk, off, rfl, hbk, hcell⟩ := (show ∃ bk off, Ax = some ⟨bk, off, none⟩ ∧ bk < w7.heap.size ∧ w7.cell? ⟨bk, off + p, none⟩ = some (eB (atB x p)) from by
      obtain ⟨A', c', e, hc, hcs⟩ := hx
      injection e with e1 e2 e3
      subst e1 e3
      obtain ⟨bk, off, e4, hb, hcell⟩ := hcs (by have := Hp.out; have := Hxl.out; omega)
      exact ⟨bk, off, e4, hb, hcell p _ Hxp.out⟩)
    have hpl : (p : Int) < l.length := by have := Hp.out; omega
    clear hC hFy p0 p1 p2 hx hy hz hbk hne hf
    generalize atB x p = ch at *
    have g5 : ((ch.toNat : Int) == (ch.toNat : Int)) = true := by simp
    have g6 : ((p : Int) == (p : Int)) = true := by simp
    go_wp2_with fail
    go_at_call 31
    refine s1.mono ?_
    rintro e w' ⟨rfl, rfl⟩
    go_wp2_with fail
    go_at_call 31
    refine s2.mono ?_
    rintro e w' ⟨rfl, rfl⟩
    go_wp2_with (go_at_call 24; refine (hw _ hT).mono ?_; rintro e w' ⟨rfl, hC⟩)
    go_ret
    exact ⟨rfl, below_trans hB hC⟩
set_option maxRecDepth 100000 in
set_option maxHeartbeats 1000000 in
theorem SwapBack_any (v0 : Value) (l : List Int) (z1 c : Int) (w : World) (hS : Sl eI w.heap.size w v0 l) (hT : Tab w) :
    Calls Tryd.prog 9 #[v0, .int .i64 z1, .int .i64 c] w fun e w' => e = .returned (.bool true) ∧ Below w.heap.size w w' := by
  have hw := wakes_any
  by_cases h2 : l.length < 2
  · have d1 : decide ((l.length : Int) < 2) = true := decide_eq_true (by omega)
    obtain ⟨A0, c0, rfl⟩ := hS.len
    go_enter Tryd.func9, Tryd.ntmps9
    go_wp2_with (go_at_call 24; refine (hw _ hT).mono ?_; rintro e w' ⟨rfl, hC⟩)
    go_ret
    exact ⟨rfl, hC⟩
  by_cases h1 : 300 < l.length
  · have d1 : decide ((l.length : Int) < 2) = false := decide_eq_false (by omega)
    have d2 : decide ((300 : Int) < (l.length : Int)) = true := decide_eq_true (by omega)
    obtain ⟨A0, c0, rfl⟩ := hS.len
    go_enter Tryd.func9, Tryd.ntmps9
    go_wp2_with (go_at_call 24; refine (hw _ hT).mono ?_; rintro e w' ⟨rfl, hC⟩)
    go_ret
    exact ⟨rfl, hC⟩
  exact SwapBack_main v0 l z1 c w hS hT (by omega) (by omega)
end Go.Proofs.YtmdpodgodhkjdaaDoor
