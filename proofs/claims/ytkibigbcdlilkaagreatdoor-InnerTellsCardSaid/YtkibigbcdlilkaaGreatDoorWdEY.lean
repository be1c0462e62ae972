import Derived.Test.YtkibigbcdlilkaaGreatDoorGBY
import Derived.Test.YtkibigbcdlilkaaGreatDoorTgGY
import Derived.Test.YtkibigbcdlilkaaGreatDoorWdDY
namespace Go.Proofs.YtkibigbcdlilkaaGreatDoor
open Go.RowKit Go.Shelf
def clsB (c : UInt8) : Bool := c == 67 || c == 71
theorem clsB_of (i b : Nat) : clsB (clsOf i b) = decide (i % 2 = 1) := by
 unfold clsOf
 rcases Nat.mod_two_eq_zero_or_one i with h | h
 · rw [if_pos h, h]; split <;> rfl
 · rw [if_neg (by omega), h]; split <;> rfl
theorem alt_field (bs : List UInt8) : ∀ k, Alt clsB (decide (k % 2 = 1)) ((bs.zipIdx k).map fun y => clsOf y.2 y.1.toNat) := by
 induction bs with
 | nil => intro k; trivial
 | cons b bs ih =>
   intro k
   rw [List.zipIdx_cons, List.map_cons]
   refine ⟨clsB_of _ _, ?_⟩
   have h := ih (k + 1)
   rw [show (decide ((k + 1) % 2 = 1)) = !decide (k % 2 = 1) by
    rcases Nat.mod_two_eq_zero_or_one k with h | h
    · rw [show (k + 1) % 2 = 1 by omega, h]; rfl
    · rw [show (k + 1) % 2 = 0 by omega, h]; rfl] at h
   exact h
theorem alt_app {cls : UInt8 → Bool} (u v : List UInt8) : ∀ b, Alt cls b u → Alt cls (if u.length % 2 = 0 then b else !b) v → Alt cls b (u ++ v) := by
 induction u with
 | nil => intro b _ h; simpa using h
 | cons x u ih =>
   intro b hu hv
   refine ⟨hu.1, ih (!b) hu.2 ?_⟩
   rw [List.length_cons] at hv
   rcases Nat.mod_two_eq_zero_or_one u.length with h | h
   · rw [if_pos h]; rw [if_neg (by omega)] at hv; exact hv
   · rw [if_neg (by omega), Bool.not_not]; rw [if_pos (by omega)] at hv; exact hv
theorem alt_three (bs : List UInt8) (h : bs.length % 2 = 0) : Alt clsB false (fieldOf bs ++ fieldOf bs ++ fieldOf bs) := by
 have h0 : Alt clsB false (fieldOf bs) := alt_field bs 0
 have hl := fieldOf_length bs
 have h1 : Alt clsB false (fieldOf bs ++ fieldOf bs) := alt_app _ _ _ h0 (by rw [hl, if_pos h]; exact h0)
 exact alt_app _ _ _ h1 (by rw [List.length_append, hl, if_pos (by omega)]; exact h0)
theorem bitB_cls (i : Nat) (b : UInt8) (h : b.toNat ≤ 1) : bitB (clsOf i b.toNat, i) = b := by
 have hb : b = 0 ∨ b = 1 := by
  rcases (show b.toNat = 0 ∨ b.toNat = 1 by omega) with e | e
  · exact .inl (UInt8.toNat_inj.1 e)
  · exact .inr (UInt8.toNat_inj.1 e)
 unfold bitB
 rcases hb with rfl | rfl
 · exact if_pos rfl
 · exact if_neg (fun e => clsOf_ne i e.symm)
theorem field_idx (bs : List UInt8) (h : ∀ b ∈ bs, b.toNat ≤ 1) : ∀ k, (((bs.zipIdx k).map fun y => clsOf y.2 y.1.toNat).zipIdx k).map bitB = bs ∧ ∀ y ∈ ((bs.zipIdx k).map fun y => clsOf y.2 y.1.toNat).zipIdx k, LetterAt y := by
 induction bs with
 | nil => intro k; exact ⟨rfl, fun y hy => by simp at hy⟩
 | cons b bs ih =>
   intro k
   obtain ⟨h1, h2⟩ := ih (fun x hx => h x (List.mem_cons_of_mem _ hx)) (k + 1)
   have hb := h b (List.mem_cons_self ..)
   rw [List.zipIdx_cons, List.map_cons, List.zipIdx_cons, List.map_cons]
   refine ⟨by rw [h1, bitB_cls k b hb], fun y hy => ?_⟩
   rcases List.mem_cons.1 hy with rfl | hy
   · show clsOf k b.toNat = clsOf k 0 ∨ clsOf k b.toNat = clsOf k 1
     rcases (show b.toNat = 0 ∨ b.toNat = 1 by omega) with e | e
     · rw [e]; exact .inl rfl
     · rw [e]; exact .inr rfl
   · exact h2 y hy
theorem field_back (bs : List UInt8) (h : ∀ b ∈ bs, b.toNat ≤ 1) : (fieldOf bs).zipIdx.map bitB = bs ∧ ∀ y ∈ (fieldOf bs).zipIdx, LetterAt y := field_idx bs h 0
theorem pack_bits (a b c n : Nat) : ∀ y ∈ packL a b c n, y.toNat ≤ 1 := by
 intro y hy
 obtain ⟨k, hk, rfl⟩ := List.getElem_of_mem hy
 have := pack_le a b c n k
 simpa [atB, List.getElem?_eq_getElem hk] using this
def fldL (x : List UInt8) (a b c : Int) : List UInt8 := fieldOf (packL a.toNat b.toNat c.toNat x.length)
def juncL (x f : List UInt8) : UInt8 := letterOf (jN (atB x (x.length - 1)) (atB f 0) : Nat)
def wordL (x f : List UInt8) : List UInt8 := x ++ [juncL x f] ++ (f ++ f ++ f)
theorem fldL_length (x : List UInt8) (a b c : Int) : (fldL x a b c).length = longN x.length := by rw [fldL, fieldOf_length, packL_length]
theorem wordL_length (x f : List UInt8) (h : f.length = longN x.length) : (wordL x f).length = wlongN x.length := by simp [wordL, wlongN, h]; omega
theorem sums_right {x : List UInt8} {a b c : Int} (h : sumsG x = .ok (a, b, c)) : rightB a b c x.length = true ∧ (2 ≤ x.length ∧ x.length ≤ 1000) ∧ Four x ∧ sT x x.length % x.length = a ∧ sS x x.length % 4 = b ∧ sW x x.length % (6 * x.length + 1) = c := by
 unfold sumsG at h
 by_cases hm : mayB x.length = false
 · rw [if_pos hm] at h; cases h
 rw [if_neg hm] at h
 by_cases hx : ∃ k, k < x.length ∧ codeOf (atB x k).toNat = -1
 · rw [if_pos hx] at h; cases h
 rw [if_neg hx] at h
 injection h with h
 injection h with h1 h2
 injection h2 with h2 h3
 have hm : mayB x.length = true := by simpa using hm
 have hm2 := hm
 unfold mayB at hm2
 rw [Bool.and_eq_true, decide_eq_true_eq, decide_eq_true_eq] at hm2
 refine ⟨?_, ⟨by omega, by omega⟩, fun k hk e => hx ⟨k, hk, e⟩, h1, h2, h3⟩
 have e1 := Int.emod_nonneg (sT x x.length) (show (x.length : Int) ≠ 0 by omega)
 have e2 := Int.emod_lt_of_pos (sT x x.length) (show (0 : Int) < x.length by omega)
 have e3 := Int.emod_nonneg (sW x x.length) (show (6 * (x.length : Int) + 1) ≠ 0 by omega)
 have e4 := Int.emod_lt_of_pos (sW x x.length) (show (0 : Int) < 6 * (x.length : Int) + 1 by omega)
 rw [h1] at e1 e2
 rw [h3] at e3 e4
 unfold rightB
 simp only [Bool.and_eq_true, decide_eq_true_eq]
 refine ⟨hm, ?_, ?_, ?_, ?_, ?_, ?_⟩ <;> omega
theorem int_nat {a : Int} (h : 0 ≤ a) : ((a.toNat : Nat) : Int) = a := Int.toNat_of_nonneg h
theorem right_nat {a b c : Int} {n : Nat} (h : rightB a b c n = true) : 0 ≤ a ∧ 0 ≤ b ∧ 0 ≤ c := by
 unfold rightB at h
 simp only [Bool.and_eq_true, decide_eq_true_eq] at h
 omega
theorem dist_pre {x y r s : List UInt8} (hl : r.length = s.length) : dist x y ≤ dist (x ++ r) (y ++ s) := by
 unfold dist
 rw [List.length_append, List.length_append, ← hl]
 have h := lev_diag_le (sameAt (x ++ r) (y ++ s)) x.length y.length r.length
 refine Nat.le_trans (Nat.le_of_eq ?_) h
 refine lev_congr _ _ fun p q hp hq => ?_
 unfold sameAt
 rw [List.getElem?_append_left hp, List.getElem?_append_left hq]
theorem four_mem {y : List UInt8} (h : Four y) : ∀ z ∈ y, codeOf z.toNat ≠ -1 := by
 intro z hz
 obtain ⟨k, hk, rfl⟩ := List.getElem_of_mem hz
 have := h k hk
 simpa [atB, List.getElem?_eq_getElem hk] using this
theorem one_step {x z : List UInt8} (h : Step (fun c => codeOf c.toNat ≠ -1) x z) : OneE x z := by
 rcases step_is h with ⟨p, h1, rfl⟩ | ⟨p, y, h0, h1, rfl⟩ | ⟨p, y, h0, h1, rfl⟩
 · exact .inr (.inr (.inl ⟨p, h1, rfl⟩))
 · exact .inr (.inr (.inr ⟨p, y, h1, h0, by simp [insW]⟩))
 · refine .inr (.inl ⟨p, y, h1, h0, ?_⟩)
   rw [List.set_eq_take_append_cons_drop, if_pos h1]
theorem same_sums {x y : List UInt8} {s : Int × Int × Int} (hx : sumsG x = .ok s) (hy : sumsG y = .ok s) (hl : x.length = y.length) (h : dist x y ≤ 2) : y = x := by
 obtain ⟨a, b, c⟩ := s
 obtain ⟨-, ⟨h2, -⟩, fx, a1, b1, c1⟩ := sums_right hx
 obtain ⟨-, -, fy, a2, b2, c2⟩ := sums_right hy
 rw [← hl] at a2 b2 c2
 obtain ⟨m, hm, hw⟩ := (dist_le_iff x y 2).1 h
 have hfy := four_mem fy
 have key : ∃ z, OneE x z ∧ OneE z y := by
  rcases m with _ | _ | _ | m
  · obtain rfl := hw.zero rfl
    exact ⟨x, .inl rfl, .inl rfl⟩
  · obtain ⟨z, h1, h2⟩ := way_step (L := fun c => codeOf c.toNat ≠ -1) hw 0 rfl hfy
    obtain rfl := h2.zero rfl
    exact ⟨z, one_step h1, .inl rfl⟩
  · obtain ⟨z, h1, h2⟩ := way_step (L := fun c => codeOf c.toNat ≠ -1) hw 1 rfl hfy
    obtain ⟨u, h3, h4⟩ := way_step (L := fun c => codeOf c.toNat ≠ -1) h2 0 rfl hfy
    obtain rfl := h4.zero rfl
    exact ⟨z, one_step h1, one_step h3⟩
  · omega
 obtain ⟨z, h1, h3⟩ := key
 exact two_edits h2 fx h1 h3 hl.symm (by rw [a1, a2]) (by rw [b1, b2]) (by rw [c1, c2])
theorem fld_inj {x y : List UInt8} {a b c a' b' c' : Int} (hx : sumsG x = .ok (a, b, c)) (hy : sumsG y = .ok (a', b', c')) (hl : x.length = y.length) (h : fldL x a b c = fldL y a' b' c') : a = a' ∧ b = b' ∧ c = c' := by
 obtain ⟨r1, -, -⟩ := sums_right hx
 obtain ⟨r2, -, -⟩ := sums_right hy
 obtain ⟨p1, p2, p3⟩ := right_nat r1
 obtain ⟨q1, q2, q3⟩ := right_nat r2
 unfold fldL at h
 have h1 := (field_back _ (pack_bits a.toNat b.toNat c.toNat x.length)).1
 have h2 := (field_back _ (pack_bits a'.toNat b'.toNat c'.toNat y.length)).1
 rw [h, h2] at h1
 have u1 := unG_pack a.toNat b.toNat c.toNat x.length (by rw [int_nat p1, int_nat p2, int_nat p3]; exact r1)
 have u2 := unG_pack a'.toNat b'.toNat c'.toNat y.length (by rw [int_nat q1, int_nat q2, int_nat q3]; exact r2)
 rw [← h1, hl, u2] at u1
 injection u1 with u1
 injection u1 with e1 u1
 injection u1 with e2 e3
 omega
theorem words_far {x y : List UInt8} {a b c a' b' c' : Int} (hx : sumsG x = .ok (a, b, c)) (hy : sumsG y = .ok (a', b', c')) (hl : x.length = y.length) (hne : x ≠ y) :
    2 < dist (wordL x (fldL x a b c)) (wordL y (fldL y a' b' c')) := by
  by_cases hf : fldL x a b c = fldL y a' b' c'
  · obtain ⟨rfl, rfl, rfl⟩ := fld_inj hx hy hl hf
    refine Decidable.byContradiction fun h => hne ?_
    have e1 : wordL x (fldL x a b c) = x ++ ([juncL x (fldL x a b c)] ++ (fldL x a b c ++ fldL x a b c ++ fldL x a b c)) := List.append_assoc ..
    have e2 : wordL y (fldL y a b c) = y ++ ([juncL y (fldL y a b c)] ++ (fldL y a b c ++ fldL y a b c ++ fldL y a b c)) := List.append_assoc ..
    have hd : dist x y ≤ 2 := by
     refine Nat.le_trans (dist_pre (r := [juncL x (fldL x a b c)] ++ (fldL x a b c ++ fldL x a b c ++ fldL x a b c)) (s := [juncL y (fldL y a b c)] ++ (fldL y a b c ++ fldL y a b c ++ fldL y a b c)) (by simp [hf])) ?_
     rw [← e1, ← e2]
     exact Nat.not_lt.1 h
    exact (same_sums hx hy hl hd).symm
  · have e1 : longN x.length % 2 = 0 := long_even _
    have e2 : longN y.length % 2 = 0 := long_even _
    refine fields_far clsB false (alt_three _ (by rw [packL_length]; exact e1)) (alt_three _ (by rw [packL_length]; exact e2)) (by simp [hl]) ?_ hf
    rw [fldL_length, fldL_length, hl]
end Go.Proofs.YtkibigbcdlilkaaGreatDoor
namespace Go.Proofs.YtkibigbcdlilkaaGreatDoor
open Go.RowKit Go.Shelf
attribute [local go_sem] Oper.semAt_some run_store_func
theorem sums_err {x : List UInt8} {m : Int} (h : sumsG x = .error m) : m = 2 ∨ m = 10 := by
 unfold sumsG at h
 split at h
 · injection h with h; omega
 · split at h
   · injection h with h; omega
   · cases h
def wfG (x : List UInt8) : Except Int (List UInt8) :=
 if 2 ≤ x.length ∧ x.length ≤ 800 then match sumsG x with
  | .error m => .error m
  | .ok (a, b, c) => .ok (fldL x a b c)
 else .error 2
theorem wfG_err {x : List UInt8} {m : Int} (h : wfG x = .error m) : m = 2 ∨ m = 10 := by
 unfold wfG at h
 split at h
 · split at h
   · rename_i k hk
     injection h with h
     subst h
     exact sums_err hk
   · cases h
 · injection h with h; omega
abbrev FieldIs (x : List UInt8) (w : World) : Ending → World → Prop := fun e w' => Below w.heap.size w w' ∧
  ((∃ f v, wfG x = .ok f ∧ e = .returned v ∧ Sl eB w'.heap.size w' v f ∧ ∀ k, v.ownBlock = some k → w.heap.size ≤ k) ∨ ∃ m, wfG x = .error m ∧ e = .panicked (errno m))
set_option maxRecDepth 100000 in
set_option maxHeartbeats 2000000 in
theorem field_len (sv : Value) (x : List UInt8) (h : ¬ (2 ≤ x.length ∧ x.length ≤ 800)) (w : World) (hS : Sl eB w.heap.size w sv x) :
    Calls Tryz.prog 105 #[sv] w (FieldIs x w) := by
  have hm := wmay_no x.length (by omega) w
  have hG := Lib.hid (show wfG x = .error 2 by unfold wfG; rw [if_neg h])
  obtain ⟨A, c, rfl⟩ := hS.len
  clear h
  go_enter Tryz.func105, Tryz.ntmps105
  go_wp2_with fail
  go_at_call 38
  refine hm.mono ?_
  rintro e w' ⟨rfl, rfl⟩
  go_wp2_with fail
  exact ⟨rfl, Below.refl _ _, .inr ⟨2, hG.out, rfl⟩⟩
set_option maxRecDepth 100000 in
set_option maxHeartbeats 2000000 in
theorem field_err (sv : Value) (x : List UInt8) (m : Int) (h : 2 ≤ x.length ∧ x.length ≤ 800) (hs : sumsG x = .error m) (w : World) (hT : Tab w) (hS : Sl eB w.heap.size w sv x) :
    Calls Tryz.prog 105 #[sv] w (FieldIs x w) := by
  have hm := wmay_yes x.length (by omega) (by omega) w
  have hG := Lib.hid (show wfG x = .error m by unfold wfG; rw [if_pos h, hs])
  have hn := wmust_not m (by have := sums_err hs; omega)
  have hO := Of_any sv x (by omega) w hT hS
  obtain ⟨A, c, rfl⟩ := hS.len
  have Hs := Lib.hid hs
  clear h hs
  go_enter Tryz.func105, Tryz.ntmps105
  go_wp2_with fail
  go_at_call 38
  refine hm.mono ?_
  rintro e w' ⟨rfl, rfl⟩
  go_wp2_with fail
  go_at_call 129
  refine hO.mono ?_
  rintro e w1 ⟨hB, ⟨a, b, d, hg, rfl⟩ | ⟨k, hg, rfl⟩⟩
  · rw [Hs.out] at hg; cases hg
  · rw [Hs.out] at hg
    injection hg with hg
    subst hg
    go_wp2_with fail
    go_at_call 112
    refine (hn _).mono ?_
    rintro e w' ⟨rfl, rfl⟩
    exact ⟨rfl, below_trans hB (below_alloc _ _), .inr ⟨m, hG.out, rfl⟩⟩
set_option maxRecDepth 100000 in
set_option maxHeartbeats 2000000 in
theorem field_ok (sv : Value) (x : List UInt8) (a b d : Int) (h : 2 ≤ x.length ∧ x.length ≤ 800) (hs : sumsG x = .ok (a, b, d)) (w : World) (hT : Tab w) (hTB : TabB w) (hS : Sl eB w.heap.size w sv x) :
    Calls Tryz.prog 105 #[sv] w (FieldIs x w) := by
  have hm := wmay_yes x.length (by omega) (by omega) w
  have hG := Lib.hid (show wfG x = .ok (fldL x a b d) by unfold wfG; rw [if_pos h, hs])
  have hok := wmust_ok
  have hO := Of_any sv x (by omega) w hT hS
  obtain ⟨hr, -, -⟩ := sums_right hs
  obtain ⟨p1, p2, p3⟩ := right_nat hr
  have hP := fun w => Pack_yes a.toNat b.toNat d.toNat x.length h.1 (by omega) (by rw [int_nat p1, int_nat p2, int_nat p3]; exact hr) w
  rw [int_nat p1, int_nat p2, int_nat p3] at hP
  have hbits := pack_bits a.toNat b.toNat d.toNat x.length
  have hL : (packL a.toNat b.toNat d.toNat x.length).length ≤ 17592186044416 := by
   rw [packL_length]
   have := tb_le x.length (by omega)
   have := wb_le x.length (by omega)
   unfold longN zb
   omega
  have hF := fun v w h hT => Field_any v (packL a.toNat b.toNat d.toNat x.length) hL w h hT
  unfold fldL at hG
  obtain ⟨A, c, rfl⟩ := hS.len
  have Hs := Lib.hid hs
  have Hbits := Lib.hid hbits
  generalize packL a.toNat b.toNat d.toNat x.length = PL at *
  clear h hs hr p1 p2 p3 hbits hL
  go_enter Tryz.func105, Tryz.ntmps105
  go_wp2_with fail
  go_at_call 38
  refine hm.mono ?_
  rintro e w' ⟨rfl, rfl⟩
  go_wp2_with fail
  go_at_call 129
  refine hO.mono ?_
  rintro e w1 ⟨hB, ⟨a', b', d', hg, rfl⟩ | ⟨k, hg, rfl⟩⟩
  · rw [Hs.out] at hg
    injection hg with hg
    injection hg with e1 hg
    injection hg with e2 e3
    subst e1 e2 e3
    have hA1 := below_alloc w1 (.cells (c3 a b d) 51)
    have hr8 := Rowed.new w1 51 (c3 a b d)
    have hB1 := below_trans hB hA1
    have hTB1 := hTB.below hB1
    clear hO hm hA1 hB
    go_wp2_with fail
    generalize w1.alloc (.cells (c3 a b d) 51) = w2 at *
    generalize w1.heap.size = g at *
    go_at_call 112
    refine (hok _).mono ?_
    rintro e w' ⟨rfl, rfl⟩
    go_wp2_with (refine wpList_load_row rfl 51 (.tmp 3) rfl g rfl _ (c3 a b d) _ _ hr8 Tryz.underlying51 rfl (size_c3 a b d) ?_)
    go_at_call 130
    refine (hP _).mono ?_
    rintro e w3 ⟨hB3, v, rfl, hv⟩
    have hB4 := below_trans hB1 hB3
    have hTB3 := hTB1.below hB3
    obtain ⟨Av, cv, rfl⟩ := hv.len
    clear hB1 hB3 hTB1 hP
    go_wp2_with fail
    go_at_call 112
    refine (hok _).mono ?_
    rintro e w' ⟨rfl, rfl⟩
    go_wp2_with fail
    go_at_call 131
    refine (hF _ _ hv hTB3).mono ?_
    rintro e w5 ⟨v5, hB5, ⟨rfl, -, hv5, hf5⟩ | ⟨-, hno⟩⟩
    · go_wp2_with fail
      go_at_call 112
      refine (hok _).mono ?_
      rintro e w' ⟨rfl, rfl⟩
      obtain ⟨Af, cf, rfl⟩ := hv5.len
      go_wp2_with fail
      go_ret
      exact ⟨below_trans hB4 hB5, .inl ⟨_, _, hG.out, rfl, hv5, fun k hk => Nat.le_trans hB4.size (hf5 k hk)⟩⟩
    · exact absurd Hbits.out hno
  · rw [Hs.out] at hg; cases hg
theorem field_any (sv : Value) (x : List UInt8) (w : World) (hT : Tab w) (hTB : TabB w) (hS : Sl eB w.heap.size w sv x) :
    Calls Tryz.prog 105 #[sv] w (FieldIs x w) := by
  by_cases h : 2 ≤ x.length ∧ x.length ≤ 800
  · cases hs : sumsG x with
    | error m => exact field_err sv x m h hs w hT hS
    | ok s => obtain ⟨a, b, d⟩ := s; exact field_ok sv x a b d h hs w hT hTB hS
  · exact field_len sv x h w hS
end Go.Proofs.YtkibigbcdlilkaaGreatDoor
