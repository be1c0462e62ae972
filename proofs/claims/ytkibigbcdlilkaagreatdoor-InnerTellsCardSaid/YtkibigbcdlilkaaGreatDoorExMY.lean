import Derived.Test.YtkibigbcdlilkaaGreatDoorSwCY
namespace Go.Proofs.YtkibigbcdlilkaaGreatDoor
open Go.RowKit Go.Shelf
theorem code_four {a : UInt8} (h : codeOf a.toNat ≠ -1) : a = 65 ∨ a = 67 ∨ a = 71 ∨ a = 84 := by
 unfold codeOf at h
 have e : ∀ k : UInt8, a.toNat = k.toNat → a = k := fun k hk => UInt8.toNat_inj.1 hk
 split at h
 · exact .inl (e 65 (by assumption))
 · split at h
   · exact .inr (.inl (e 67 (by assumption)))
   · split at h
     · exact .inr (.inr (.inl (e 71 (by assumption))))
     · split at h
       · exact .inr (.inr (.inr (e 84 (by assumption))))
       · exact absurd rfl h
theorem code_none {a : UInt8} (h : codeOf a.toNat = -1) : a ≠ 65 ∧ a ≠ 67 ∧ a ≠ 71 ∧ a ≠ 84 :=
 ⟨fun e => by rw [e] at h; exact absurd h (by decide), fun e => by rw [e] at h; exact absurd h (by decide), fun e => by rw [e] at h; exact absurd h (by decide), fun e => by rw [e] at h; exact absurd h (by decide)⟩
theorem byte_neq {a k : UInt8} (h : a ≠ k) : ((a.toNat : Int) != (k.toNat : Int)) = true := by
 rw [bne_iff_ne]
 intro e
 exact h (UInt8.toNat_inj.1 (by omega))
theorem atB_drop (bs : List UInt8) (o k : Nat) : atB (bs.drop o) k = atB bs (o + k) := by simp [atB]
theorem atB_append_left (l r : List UInt8) {j : Nat} (h : j < l.length) : atB (l ++ r) j = atB l j := by simp [atB, List.getElem?_append_left h]
theorem atB_append_right (l r : List UInt8) {j : Nat} (h : l.length ≤ j) : atB (l ++ r) j = atB r (j - l.length) := by simp [atB, List.getElem?_append_right h]
theorem atB_set (l : List UInt8) (p : Nat) (y : UInt8) (h : p < l.length) : atB (l.set p y) p = y := by simp [atB, h]
theorem atB_set_other (l : List UInt8) {p q : Nat} (y : UInt8) (h : p ≠ q) : atB (l.set p y) q = atB l q := by
 simp [atB, List.getElem?_set_ne h]
theorem sS_set (l : List UInt8) (p : Nat) (y : UInt8) (hp : p < l.length) (n : Nat) : sS (l.set p y) n = sS l n + if p < n then codeOf y.toNat - codeOf (atB l p).toNat else 0 := by
 induction n with
 | zero => simp [sS]
 | succ n ih =>
   rw [sS, sS, ih]
   by_cases e : p = n
   · subst e
     rw [atB_set l p y hp, if_neg (by omega), if_pos (by omega)]
     omega
   · rw [atB_set_other l y e]
     by_cases h : p < n
     · rw [if_pos h, if_pos (by omega)]; omega
     · rw [if_neg h, if_neg (by omega)]; omega
theorem sW_set (l : List UInt8) (p : Nat) (y : UInt8) (hp : p < l.length) (n : Nat) : sW (l.set p y) n = sW l n + if p < n then (codeOf y.toNat - codeOf (atB l p).toNat) * ((p : Int) + 1) else 0 := by
 induction n with
 | zero => simp [sW]
 | succ n ih =>
   rw [sW, sW, ih]
   by_cases e : p = n
   · subst e
     rw [atB_set l p y hp, if_neg (by omega), if_pos (by omega), Int.sub_mul]
     omega
   · rw [atB_set_other l y e]
     by_cases h : p < n
     · rw [if_pos h, if_pos (by omega)]; omega
     · rw [if_neg h, if_neg (by omega)]; omega
theorem code_inj {a b : UInt8} (h : codeOf a.toNat = codeOf b.toNat) (ha : codeOf a.toNat ≠ -1) : a = b := by
 have hb : codeOf b.toNat ≠ -1 := by rw [← h]; exact ha
 rcases code_four ha with rfl | rfl | rfl | rfl <;> rcases code_four hb with rfl | rfl | rfl | rfl <;> first | rfl | exact absurd h (by decide)
theorem mod_zero {A E m : Int} (h : (A + E) % m = A % m) (hm : 0 < m) (h1 : -m < E) (h2 : E < m) : E = 0 := by
 have h3 : E % m = 0 := by
  have := Int.emod_emod_of_dvd (A + E - A) (Int.dvd_refl m)
  have h4 : (A + E - A) % m = 0 := by rw [Int.sub_emod, h, Int.sub_self, Int.zero_emod]
  rwa [show A + E - A = E by omega] at h4
 obtain ⟨k, hk⟩ := Int.dvd_of_emod_eq_zero h3
 have hk0 : k = 0 := by
  apply Classical.byContradiction
  intro hne
  rcases (show k ≤ -1 ∨ 1 ≤ k by omega) with hh | hh
  · have : m * k ≤ m * (-1) := Int.mul_le_mul_of_nonneg_left hh (by omega)
    omega
  · have : m * 1 ≤ m * k := Int.mul_le_mul_of_nonneg_left hh (by omega)
    omega
 rw [hk, hk0, Int.mul_zero]
theorem set_same (l : List UInt8) (p : Nat) (hp : p < l.length) : l.set p (atB l p) = l := by
 have : atB l p = l[p] := by simp [atB, hp]
 rw [this]
 exact List.set_getElem_self hp
theorem code_bound {c : UInt8} (h : codeOf c.toNat ≠ -1) : 0 ≤ codeOf c.toNat ∧ codeOf c.toNat ≤ 3 := by
 have := codeOf_range c.toNat
 omega
theorem swap_same (x : List UInt8) (p q : Nat) (b c : UInt8) (hn : 2 ≤ x.length) (hp : p < x.length) (hq : q < x.length) (hx : ∀ k, k < x.length → codeOf (atB x k).toNat ≠ -1) (hy : ∀ k, k < x.length → codeOf (atB ((x.set p b).set q c) k).toNat ≠ -1)
    (eS : sS ((x.set p b).set q c) x.length % 4 = sS x x.length % 4) (eW : sW ((x.set p b).set q c) x.length % (6 * x.length + 1) = sW x x.length % (6 * x.length + 1)) : (x.set p b).set q c = x := by
 have hl : (x.set p b).length = x.length := by simp
 have hyq := hy q hq
 rw [atB_set _ q c (by rw [hl]; exact hq)] at hyq
 by_cases e : p = q
 · subst e
   rw [List.set_set] at eS eW ⊢
   rw [sS_set x p c hp, if_pos hp] at eS
   have h1 := code_bound (hx p hp)
   have h2 := code_bound hyq
   have h3 := mod_zero eS (by omega) (by omega) (by omega)
   have h4 : c = atB x p := code_inj (by omega) hyq
   rw [h4]
   exact set_same x p hp
 · have hyp := hy p hp
   rw [atB_set_other _ c (fun h => e h.symm), atB_set x p b hp] at hyp
   rw [sS_set _ q c (by rw [hl]; exact hq), if_pos hq, sS_set x p b hp, if_pos hp, atB_set_other x b e] at eS
   rw [sW_set _ q c (by rw [hl]; exact hq), if_pos hq, sW_set x p b hp, if_pos hp, atB_set_other x b e, Int.add_assoc] at eW
   rw [Int.add_assoc] at eS
   have h1 := code_bound (hx p hp)
   have h2 := code_bound (hx q hq)
   have h3 := code_bound hyp
   have h4 := code_bound hyq
   obtain ⟨d1, hd1⟩ : ∃ d, codeOf b.toNat - codeOf (atB x p).toNat = d := ⟨_, rfl⟩
   obtain ⟨d2, hd2⟩ : ∃ d, codeOf c.toNat - codeOf (atB x q).toNat = d := ⟨_, rfl⟩
   rw [hd1, hd2] at eS eW
   have b1 : -3 ≤ d1 ∧ d1 ≤ 3 := by omega
   have b2 : -3 ≤ d2 ∧ d2 ≤ 3 := by omega
   have hE : d1 * ((p : Int) + 1) + d2 * ((q : Int) + 1) = 0 := by
    have c1 : d1 = -3 ∨ d1 = -2 ∨ d1 = -1 ∨ d1 = 0 ∨ d1 = 1 ∨ d1 = 2 ∨ d1 = 3 := by omega
    have c2 : d2 = -3 ∨ d2 = -2 ∨ d2 = -1 ∨ d2 = 0 ∨ d2 = 1 ∨ d2 = 2 ∨ d2 = 3 := by omega
    have u1 : -3 * (x.length : Int) ≤ d1 * ((p : Int) + 1) ∧ d1 * ((p : Int) + 1) ≤ 3 * x.length := by rcases c1 with r | r | r | r | r | r | r <;> rw [r] <;> omega
    have u2 : -3 * (x.length : Int) ≤ d2 * ((q : Int) + 1) ∧ d2 * ((q : Int) + 1) ≤ 3 * x.length := by rcases c2 with r | r | r | r | r | r | r <;> rw [r] <;> omega
    exact mod_zero eW (by omega) (by omega) (by omega)
   have hS4 : (d1 + d2) % 4 = 0 := by
    have h5 : (sS x x.length + (d1 + d2) - sS x x.length) % 4 = 0 := by rw [Int.sub_emod, eS, Int.sub_self, Int.zero_emod]
    rwa [show sS x x.length + (d1 + d2) - sS x x.length = d1 + d2 by omega] at h5
   have hz : d1 = 0 ∧ d2 = 0 := by
    have c1 : d1 = -3 ∨ d1 = -2 ∨ d1 = -1 ∨ d1 = 0 ∨ d1 = 1 ∨ d1 = 2 ∨ d1 = 3 := by omega
    have c2 : d2 = -3 ∨ d2 = -2 ∨ d2 = -1 ∨ d2 = 0 ∨ d2 = 1 ∨ d2 = 2 ∨ d2 = 3 := by omega
    clear eS eW hd1 hd2 h1 h2 h3 h4
    rcases c1 with r | r | r | r | r | r | r <;> rcases c2 with r' | r' | r' | r' | r' | r' | r' <;> subst r <;> subst r' <;> first | exact ⟨rfl, rfl⟩ | (exfalso; omega)
   have f1 : b = atB x p := code_inj (by omega) hyp
   have f2 : c = atB x q := code_inj (by omega) hyq
   rw [f1, set_same x p hp, f2, set_same x q hq]
theorem four_sums (x : List UInt8) (h2 : 2 ≤ x.length) (h1 : x.length ≤ 1000) (h : ∀ k, k < x.length → codeOf (atB x k).toNat ≠ -1) : sumsG x = .ok (sT x x.length % x.length, sS x x.length % 4, sW x x.length % (6 * x.length + 1)) := by
 have hm : mayB x.length = true := by unfold mayB; rw [decide_eq_true (by omega), decide_eq_true (by omega)]; rfl
 rw [sumsG, if_neg (by rw [hm]; simp), if_neg (fun ⟨k, h1, h2⟩ => h k h1 h2)]
theorem row3 {W : World} {g : Nat} {p q r : Int} (h : Rowed W g 51 (c3 p q r)) (a b c : Int) : Rowed (((W.setCell ⟨g, 0, none⟩ (.int .i64 a)).setCell ⟨g, 1, none⟩ (.int .i64 b)).setCell ⟨g, 2, none⟩ (.int .i64 c)) g 51 (c3 a b c) :=
 ((h.set 0 (.int .i64 a)).set 1 (.int .i64 b)).set 2 (.int .i64 c)
theorem below3 {B : Nat} {w W : World} (h : Below B w W) (g : Nat) (hg : B ≤ g) (a b c : Value) : Below B w (((W.setCell ⟨g, 0, none⟩ a).setCell ⟨g, 1, none⟩ b).setCell ⟨g, 2, none⟩ c) :=
 ((h.setCell (p := ⟨g, 0, none⟩) hg a).setCell (p := ⟨g, 1, none⟩) hg b).setCell (p := ⟨g, 2, none⟩) hg c
end Go.Proofs.YtkibigbcdlilkaaGreatDoor
namespace Go.Proofs.YtkibigbcdlilkaaGreatDoor
open Go.RowKit Go.Shelf
attribute [local go_sem] Oper.semAt_some run_store_func
def letterOf (n : Int) : UInt8 := lett (n % 4).toNat
theorem letterOf_code (n : Int) : codeOf (letterOf n).toNat = n % 4 := by
 rw [letterOf, lett_code _ (by omega)]
 omega
theorem letterOf_ok (n : Int) : codeOf (letterOf n).toNat ≠ -1 := by rw [letterOf_code]; omega
theorem code_letter {c : UInt8} (h : codeOf c.toNat ≠ -1) : letterOf (codeOf c.toNat) = c := by
 rcases code_four h with rfl | rfl | rfl | rfl <;> rfl
theorem Code_any (c : UInt8) (w : World) (hT : Tab w) :
    Calls Tryz.prog 64 #[eB c] w fun e w' => e = .returned (.tuple #[.int .i64 (if codeOf c.toNat = -1 then 0 else codeOf c.toNat), .int .i64 (if codeOf c.toNat = -1 then 10 else 0)]) ∧ w = w' := callsIn_inProg (Code_in c 0 w hT)
end Go.Proofs.YtkibigbcdlilkaaGreatDoor
namespace Go.Proofs.YtkibigbcdlilkaaGreatDoor
open Go.RowKit Go.Shelf
attribute [local go_sem] Oper.semAt_some run_store_func
theorem letterOf_cell {w : World} (hT : Tab w) (n : Int) : w.cell? ⟨1, (n % 4).toNat, none⟩ = some (eB (letterOf n)) := by
 obtain ⟨t, fr, h⟩ := hT
 unfold letterOf
 have hn : n % 4 = 0 ∨ n % 4 = 1 ∨ n % 4 = 2 ∨ n % 4 = 3 := by omega
 rcases hn with e | e | e | e <;> rw [e] <;> simp [World.cell?, h, lett, eB]
set_option maxRecDepth 100000 in
set_option maxHeartbeats 400000 in
theorem Letter_any (n : Int) (w : World) (hT : Tab w) :
    Calls Tryz.prog 65 #[.int .i64 n] w fun e w' => e = .returned (eB (letterOf n)) ∧ w = w' := by
  have hc := letterOf_cell hT n
  have hb := bits_and3 n
  have h0 : 0 ≤ n % 4 := by omega
  have h4 : n % 4 < 4 := by omega
  clear hT
  go_enter Tryz.func65, Tryz.ntmps65
  go_wp2
  go_ret
  exact ⟨rfl, rfl⟩
end Go.Proofs.YtkibigbcdlilkaaGreatDoor
namespace Go.Proofs.YtkibigbcdlilkaaGreatDoor
open Go.RowKit Go.Shelf
def ro (x : List UInt8) (k : Nat) : Int := if riseB x k then 1 else 0
theorem ro_01 (x : List UInt8) (k : Nat) : ro x k = 0 ∨ ro x k = 1 := by unfold ro; split <;> simp
theorem sT_succ (x : List UInt8) (k : Nat) : sT x (k + 1) = sT x k + (k : Int) * ro x k := by
 rw [sT, ro]; split <;> simp
theorem ro_pos (x : List UInt8) (k : Nat) (hk : 0 < k) : ro x k = if (atB x (k - 1)).toNat ≤ (atB x k).toNat then 1 else 0 := by
 unfold ro riseB
 simp [hk]
theorem ro_zero (x : List UInt8) : ro x 0 = 0 := by simp [ro, riseB]
theorem ro_congr {x y : List UInt8} {k : Nat} (h1 : atB x k = atB y k) (h2 : 0 < k → atB x (k - 1) = atB y (k - 1)) : ro x k = ro y k := by
 by_cases hk : 0 < k
 · rw [ro_pos x k hk, ro_pos y k hk, h1, h2 hk]
 · obtain rfl : k = 0 := by omega
   rw [ro_zero, ro_zero]
def cnt (y : List UInt8) (i : Nat) : Nat → Int
  | 0 => 0
  | s + 1 => cnt y i s + ro y (i + (s + 1))
theorem cnt_range (y : List UInt8) (i s : Nat) : 0 ≤ cnt y i s ∧ cnt y i s ≤ s := by
 induction s with
 | zero => simp [cnt]
 | succ s ih =>
   have := ro_01 y (i + (s + 1))
   rw [cnt]
   omega
theorem cnt_all (y : List UInt8) (i s : Nat) (h : cnt y i s = s) : ∀ t, t < s → ro y (i + (t + 1)) = 1 := by
 induction s with
 | zero => intro t ht; omega
 | succ s ih =>
   have h1 := ro_01 y (i + (s + 1))
   have h2 := cnt_range y i s
   rw [cnt] at h
   intro t ht
   by_cases e : t = s
   · subst e; omega
   · exact ih (by omega) t (by omega)
theorem cnt_none (y : List UInt8) (i s : Nat) (h : cnt y i s = 0) : ∀ t, t < s → ro y (i + (t + 1)) = 0 := by
 induction s with
 | zero => intro t ht; omega
 | succ s ih =>
   have h1 := ro_01 y (i + (s + 1))
   have h2 := cnt_range y i s
   rw [cnt] at h
   intro t ht
   by_cases e : t = s
   · subst e; omega
   · exact ih (by omega) t (by omega)
structure Shifted (x y : List UInt8) (i j : Nat) : Prop where
  lt : i < j
  before : ∀ k, k < i → atB x k = atB y k
  behind : ∀ k, j < k → atB x k = atB y k
  mid : ∀ k, i ≤ k → k < j → atB x (k + 1) = atB y k
  ends : atB x i = atB y j
theorem diff_before {x y : List UInt8} {i j : Nat} (h : Shifted x y i j) (p : Nat) (hp : p ≤ i) : sT y p = sT x p := by
 induction p with
 | zero => rfl
 | succ p ih =>
   rw [sT_succ, sT_succ, ih (by omega), ro_congr (x := x) (y := y) (h.before p (by omega)) (fun _ => h.before (p - 1) (by omega))]
theorem diff_mid {x y : List UInt8} {i j : Nat} (h : Shifted x y i j) (s : Nat) (hs : i + (s + 1) ≤ j) :
    sT y (i + 1 + (s + 1)) - sT x (i + 1 + (s + 1)) = (i : Int) * (ro y i - ro x i) - ((i : Int) + 1) * ro x (i + 1) - cnt y i s + ((i : Int) + (s + 1)) * ro y (i + (s + 1)) := by
  induction s with
  | zero =>
    have h0 := diff_before h i (Nat.le_refl _)
    rw [show i + 1 + (0 + 1) = (i + 1) + 1 from rfl, sT_succ, sT_succ, sT_succ, sT_succ, h0, cnt]
    rw [show i + (0 + 1) = i + 1 from rfl]
    push_cast
    simp only [Int.mul_sub, Int.add_mul]
    omega
  | succ s ih =>
    have ih := ih (by omega)
    have hr : ro x (i + 1 + (s + 1)) = ro y (i + (s + 1)) := by
     rw [ro_pos x _ (by omega), ro_pos y _ (by omega)]
     have e1 := h.mid (i + (s + 1)) (by omega) (by omega)
     have e2 := h.mid (i + s) (by omega) (by omega)
     rw [show i + 1 + (s + 1) = i + (s + 1) + 1 by omega, e1, show i + (s + 1) + 1 - 1 = i + s + 1 by omega, e2, show i + (s + 1) - 1 = i + s by omega]
    rw [show i + 1 + (s + 1 + 1) = i + 1 + (s + 1) + 1 by omega, sT_succ, sT_succ, hr, cnt]
    rw [show i + (s + 1 + 1) = i + 1 + (s + 1) by omega]
    have e3 : (((i + 1 + (s + 1) : Nat) : Int)) = (i : Int) + ((s : Int) + 1) + 1 := by push_cast; omega
    have e4 : ((i : Int) + (((s + 1 : Nat) : Int) + 1)) = (i : Int) + ((s : Int) + 1) + 1 := by push_cast; omega
    rw [e3, e4]
    generalize ro y (i + 1 + (s + 1)) = r1 at *
    generalize ro y (i + (s + 1)) = r2 at *
    generalize (i : Int) + ((s : Int) + 1) = k at *
    rw [Int.add_mul, Int.add_mul, Int.one_mul, Int.one_mul]
    omega
theorem diff_behind {x y : List UInt8} {i j : Nat} (h : Shifted x y i j) (n : Nat) (hn : j + 1 < n) : sT y n - sT x n = sT y (j + 1) - sT x (j + 1) + ((j : Int) + 1) * (ro y (j + 1) - ro x (j + 1)) := by
 obtain ⟨d, rfl⟩ : ∃ d, n = j + 2 + d := ⟨n - (j + 2), by omega⟩
 clear hn
 induction d with
 | zero =>
   rw [show j + 2 + 0 = j + 1 + 1 from rfl, sT_succ y (j + 1), sT_succ x (j + 1), Int.mul_sub]
   push_cast
   omega
 | succ d ih =>
   have hr : ro x (j + 2 + d) = ro y (j + 2 + d) := ro_congr (h.behind _ (by omega)) (fun _ => h.behind _ (by omega))
   rw [show j + 2 + (d + 1) = j + 2 + d + 1 from rfl, sT_succ, sT_succ, hr]
   omega
theorem chain_up (y : List UInt8) (i m : Nat) (h : ∀ t, t < m → ro y (i + (t + 1)) = 1) : ∀ t u, t ≤ u → u ≤ m → (atB y (i + t)).toNat ≤ (atB y (i + u)).toNat := by
 intro t u htu hu
 induction u with
 | zero => obtain rfl : t = 0 := by omega
           exact Nat.le_refl _
 | succ u ih =>
   by_cases e : t = u + 1
   · subst e; exact Nat.le_refl _
   · have h1 := ih (by omega) (by omega)
     have h2 := h u (by omega)
     rw [ro_pos y _ (by omega), show i + (u + 1) - 1 = i + u by omega] at h2
     split at h2
     · omega
     · omega
theorem chain_down (y : List UInt8) (i m : Nat) (h : ∀ t, t < m → ro y (i + (t + 1)) = 0) : ∀ u, u ≤ m → (atB y (i + u)).toNat ≤ (atB y i).toNat := by
 intro u hu
 induction u with
 | zero => exact Nat.le_refl _
 | succ u ih =>
   have h1 := ih (by omega)
   have h2 := h u (by omega)
   rw [ro_pos y _ (by omega), show i + (u + 1) - 1 = i + u by omega] at h2
   split at h2
   · omega
   · omega
theorem case_all (i j n s C r1 r2 B D e1 e2 a u v wb f : Int) (hs : i + s + 1 = j) (hs0 : 0 ≤ s) (hC : 0 ≤ C) (hC2 : C ≤ s)
    (hB : (B = 1 ∧ a ≤ u) ∨ (B = 0 ∧ u < a)) (hD : (D = 1 ∧ v ≤ a) ∨ (D = 0 ∧ a < v))
    (hA : (i = 0 ∧ r1 = 0 ∧ r2 = 0) ∨ (0 < i ∧ ((r1 = 1 ∧ wb ≤ u) ∨ (r1 = 0 ∧ u < wb)) ∧ ((r2 = 1 ∧ wb ≤ a) ∨ (r2 = 0 ∧ a < wb))))
    (hE : (j + 1 = n ∧ e1 = 0 ∧ e2 = 0) ∨ (j + 1 < n ∧ ((e2 = 1 ∧ a ≤ f) ∨ (e2 = 0 ∧ f < a)) ∧ ((e1 = 1 ∧ v ≤ f) ∨ (e1 = 0 ∧ f < v)))) :
    -n < i * (r1 - r2) - (i + 1) * B - C + j * D + (j + 1) * (e2 - e1) ∧ i * (r1 - r2) - (i + 1) * B - C + j * D + (j + 1) * (e2 - e1) < n ∧
      (i * (r1 - r2) - (i + 1) * B - C + j * D + (j + 1) * (e2 - e1) = 0 → (B = 1 ∧ D = 1 ∧ C = s) ∨ (B = 0 ∧ D = 0 ∧ C = 0)) := by
 rcases hB with ⟨rfl, hB⟩ | ⟨rfl, hB⟩ <;> rcases hD with ⟨rfl, hD⟩ | ⟨rfl, hD⟩ <;> rcases hA with ⟨hA, rfl, rfl⟩ | ⟨hA, ⟨rfl, hA1⟩ | ⟨rfl, hA1⟩, ⟨rfl, hA2⟩ | ⟨rfl, hA2⟩⟩ <;>
   rcases hE with ⟨hE, rfl, rfl⟩ | ⟨hE, ⟨rfl, hE1⟩ | ⟨rfl, hE1⟩, ⟨rfl, hE2⟩ | ⟨rfl, hE2⟩⟩
 all_goals (refine ⟨?_, ?_, fun h => ?_⟩ <;> omega)
theorem ro_is (x : List UInt8) (k : Nat) (hk : 0 < k) : (ro x k = 1 ∧ ((atB x (k - 1)).toNat : Int) ≤ ((atB x k).toNat : Int)) ∨ (ro x k = 0 ∧ ((atB x k).toNat : Int) < ((atB x (k - 1)).toNat : Int)) := by
 rw [ro_pos x k hk]
 split
 · exact .inl ⟨rfl, by omega⟩
 · exact .inr ⟨rfl, by omega⟩
theorem shifted_same {x y : List UInt8} {i j : Nat} (h : Shifted x y i j) (n : Nat) (hj : j < n) (hT : sT y n % n = sT x n % n) : ∀ k, i ≤ k → k < j → atB y k = atB x i := by
 have hlt := h.lt
 obtain ⟨s, hs⟩ : ∃ s, j = i + (s + 1) := ⟨j - i - 1, by omega⟩
 have hmid := diff_mid h s (by omega)
 rw [show i + 1 + (s + 1) = j + 1 by omega, ← hs] at hmid
 have hci := cnt_range y i s
 obtain ⟨e1, e2, hE, hd⟩ : ∃ e1 e2 : Int, (((j : Int) + 1 = n ∧ e1 = 0 ∧ e2 = 0) ∨ ((j : Int) + 1 < n ∧ ((e2 = 1 ∧ ((atB x i).toNat : Int) ≤ ((atB y (j + 1)).toNat : Int)) ∨ (e2 = 0 ∧ ((atB y (j + 1)).toNat : Int) < ((atB x i).toNat : Int))) ∧
     ((e1 = 1 ∧ ((atB y (j - 1)).toNat : Int) ≤ ((atB y (j + 1)).toNat : Int)) ∨ (e1 = 0 ∧ ((atB y (j + 1)).toNat : Int) < ((atB y (j - 1)).toNat : Int))))) ∧
     sT y n - sT x n = sT y (j + 1) - sT x (j + 1) + ((j : Int) + 1) * (e2 - e1) := by
   by_cases hjn : j + 1 = n
   · exact ⟨0, 0, .inl ⟨by omega, rfl, rfl⟩, by rw [← hjn]; simp⟩
   · refine ⟨ro x (j + 1), ro y (j + 1), .inr ⟨by omega, ?_, ?_⟩, diff_behind h n (by omega)⟩
     · have := ro_is y (j + 1) (by omega)
       rw [Nat.add_sub_cancel, ← h.ends] at this
       exact this
     · have := ro_is x (j + 1) (by omega)
       rw [Nat.add_sub_cancel, h.behind (j + 1) (by omega)] at this
       have e := h.mid (j - 1) (by omega) (by omega)
       rw [show j - 1 + 1 = j by omega] at e
       rw [e] at this
       exact this
 have hB := ro_is x (i + 1) (by omega)
 rw [Nat.add_sub_cancel, h.mid i (Nat.le_refl _) hlt] at hB
 have hD := ro_is y j (by omega)
 rw [← h.ends] at hD
 have hA : ((i : Int) = 0 ∧ ro y i = 0 ∧ ro x i = 0) ∨ (0 < (i : Int) ∧ ((ro y i = 1 ∧ ((atB y (i - 1)).toNat : Int) ≤ ((atB y i).toNat : Int)) ∨ (ro y i = 0 ∧ ((atB y i).toNat : Int) < ((atB y (i - 1)).toNat : Int))) ∧
     ((ro x i = 1 ∧ ((atB y (i - 1)).toNat : Int) ≤ ((atB x i).toNat : Int)) ∨ (ro x i = 0 ∧ ((atB x i).toNat : Int) < ((atB y (i - 1)).toNat : Int)))) := by
   by_cases hi : i = 0
   · subst hi
     exact .inl ⟨rfl, ro_zero y, ro_zero x⟩
   · refine .inr ⟨by omega, ro_is y i (by omega), ?_⟩
     have := ro_is x i (by omega)
     rw [h.before (i - 1) (by omega)] at this
     exact this
 have hc := case_all i j n s (cnt y i s) (ro y i) (ro x i) (ro x (i + 1)) (ro y j) e1 e2 _ _ _ _ _ (by omega) (by omega) hci.1 hci.2 hB hD hA hE
 have hjs : ((i : Int) + ((s : Int) + 1)) = (j : Int) := by omega
 rw [hjs] at hmid
 rw [hmid] at hd
 have hd0 := mod_zero (A := sT x n) (E := sT y n - sT x n) (m := n) (by rw [show sT x n + (sT y n - sT x n) = sT y n by omega]; exact hT) (by omega) (by rw [hd]; exact hc.1) (by rw [hd]; exact hc.2.1)
 have hfin := hc.2.2 (by rw [← hd]; exact hd0)
 rcases hfin with ⟨f1, f2, f3⟩ | ⟨f1, f2, f3⟩
 · have hall := cnt_all y i s f3
   have up := chain_up y i s hall
   have hb : ((atB x i).toNat : Int) ≤ ((atB y i).toNat : Int) := by rcases hB with ⟨_, hB⟩ | ⟨hB, _⟩ <;> omega
   have hd' : ((atB y (j - 1)).toNat : Int) ≤ ((atB x i).toNat : Int) := by rcases hD with ⟨_, hD⟩ | ⟨hD, _⟩ <;> omega
   intro k hik hkj
   have u1 := up 0 (k - i) (by omega) (by omega)
   have u2 := up (k - i) s (by omega) (Nat.le_refl _)
   rw [Nat.add_zero, show i + (k - i) = k by omega] at u1
   rw [show i + (k - i) = k by omega, show i + s = j - 1 by omega] at u2
   exact UInt8.toNat_inj.1 (by omega)
 · exfalso
   have hall := cnt_none y i s f3
   have dn := chain_down y i s hall s (Nat.le_refl _)
   rw [show i + s = j - 1 by omega] at dn
   have hb : ((atB y i).toNat : Int) < ((atB x i).toNat : Int) := by rcases hB with ⟨hB, _⟩ | ⟨_, hB⟩ <;> omega
   have hd' : ((atB x i).toNat : Int) < ((atB y (j - 1)).toNat : Int) := by rcases hD with ⟨hD, _⟩ | ⟨_, hD⟩ <;> omega
   omega
theorem shifted_eq {x y : List UInt8} {i j : Nat} (h : Shifted x y i j) (n : Nat) (hx : x.length = n) (hy : y.length = n) (hj : j < n) (hT : sT y n % n = sT x n % n) : y = x := by
 have hs := shifted_same h n hj hT
 have hlt := h.lt
 have hat : ∀ k, atB y k = atB x k := by
  intro k
  by_cases h1 : k < i
  · exact (h.before k h1).symm
  · by_cases h2 : j < k
    · exact (h.behind k h2).symm
    · have hyk : atB y k = atB x i := by
        by_cases e : k = j
        · rw [e, h.ends]
        · exact hs k (by omega) (by omega)
      have hxk : atB x k = atB x i := by
       by_cases e : k = i
       · rw [e]
       · have := h.mid (k - 1) (by omega) (by omega)
         rw [show k - 1 + 1 = k by omega] at this
         rw [this]
         exact hs (k - 1) (by omega) (by omega)
      rw [hyk, hxk]
 apply List.ext_getElem (by omega)
 intro k h1 h2
 have := hat k
 simp only [atB, List.getElem?_eq_getElem h1, List.getElem?_eq_getElem h2, Option.getD_some] at this
 exact this
def delW (x : List UInt8) (i : Nat) : List UInt8 := x.take i ++ x.drop (i + 1)
def insW (z : List UInt8) (t : Nat) (b : UInt8) : List UInt8 := z.take t ++ [b] ++ z.drop t
theorem delW_length (x : List UInt8) (i : Nat) (h : i < x.length) : (delW x i).length + 1 = x.length := by simp [delW]; omega
theorem insW_length (z : List UInt8) (t : Nat) (b : UInt8) (h : t ≤ z.length) : (insW z t b).length = z.length + 1 := by simp [insW]; omega
theorem atB_del (x : List UInt8) (i k : Nat) (h : i < x.length) : atB (delW x i) k = if k < i then atB x k else atB x (k + 1) := by
 have hl : (x.take i).length = i := by simp; omega
 unfold delW
 split
 · rename_i hk
   rw [atB_append_left _ _ (by omega)]
   simp only [atB, List.getElem?_take, if_pos hk]
 · rw [atB_append_right _ _ (by omega), hl, atB_drop, show i + 1 + (k - i) = k + 1 by omega]
theorem atB_ins (z : List UInt8) (t k : Nat) (b : UInt8) (h : t ≤ z.length) : atB (insW z t b) k = if k < t then atB z k else if k = t then b else atB z (k - 1) := by
 have hl : (z.take t).length = t := by simp; omega
 unfold insW
 rw [List.append_assoc]
 split
 · rename_i hk
   rw [atB_append_left _ _ (by omega)]
   simp only [atB, List.getElem?_take, if_pos hk]
 · rw [atB_append_right _ _ (by omega), hl]
   split
   · rename_i e
     rw [e, Nat.sub_self]
     rfl
   · rw [atB_append_right _ _ (by simp; omega), atB_drop]
     congr 1
     simp
     omega
def csum (l : List UInt8) : Int := (l.map fun c => codeOf c.toNat).sum
theorem csum_app (l r : List UInt8) : csum (l ++ r) = csum l + csum r := by simp [csum]
theorem csum_one (b : UInt8) : csum [b] = codeOf b.toNat := by simp [csum]
theorem sS_take (l : List UInt8) (k : Nat) (h : k ≤ l.length) : sS l k = csum (l.take k) := by
 induction k with
 | zero => simp [sS, csum]
 | succ k ih =>
   have hk : k < l.length := by omega
   rw [sS, ih (by omega), List.take_succ_eq_append_getElem hk, csum_app, csum_one]
   congr 3
   simp [atB, hk]
theorem sS_all (l : List UInt8) : sS l l.length = csum l := by rw [sS_take l _ (Nat.le_refl _), List.take_length]
theorem csum_del (x : List UInt8) (i : Nat) (h : i < x.length) : csum x = csum (delW x i) + codeOf (atB x i).toNat := by
 have e : x = x.take i ++ [x[i]] ++ x.drop (i + 1) := by
  rw [List.append_assoc, List.singleton_append, ← List.drop_eq_getElem_cons h, List.take_append_drop]
 have ea : atB x i = x[i] := by simp [atB, h]
 rw [ea]
 conv => lhs; rw [e]
 rw [delW, csum_app, csum_app, csum_app, csum_one]
 omega
theorem csum_ins (z : List UInt8) (t : Nat) (b : UInt8) : csum (insW z t b) = csum z + codeOf b.toNat := by
 have e : csum z = csum (z.take t) + csum (z.drop t) := by rw [← csum_app, List.take_append_drop]
 rw [insW, csum_app, csum_app, csum_one, e]
 omega
theorem gap_same (x : List UInt8) (i t : Nat) (b : UInt8) (hi : i < x.length) (ht : t < x.length) (hx : ∀ k, k < x.length → codeOf (atB x k).toNat ≠ -1) (hy : ∀ k, k < x.length → codeOf (atB (insW (delW x i) t b) k).toNat ≠ -1)
    (eT : sT (insW (delW x i) t b) x.length % x.length = sT x x.length % x.length) (eS : sS (insW (delW x i) t b) x.length % 4 = sS x x.length % 4) : insW (delW x i) t b = x := by
 have hdl := delW_length x i hi
 have hyl : (insW (delW x i) t b).length = x.length := by rw [insW_length _ _ _ (by omega), hdl]
 have hb : codeOf b.toNat ≠ -1 := by
  have := hy t ht
  rw [atB_ins _ _ _ _ (by omega), if_neg (by omega), if_pos rfl] at this
  exact this
 have hbx : b = atB x i := by
  have h1 := sS_all (insW (delW x i) t b)
  rw [hyl] at h1
  rw [h1, sS_all, csum_ins, csum_del x i hi] at eS
  have h2 := code_bound (hx i hi)
  have h3 := code_bound hb
  have h4 : csum (delW x i) + codeOf b.toNat = (csum (delW x i) + codeOf (atB x i).toNat) + (codeOf b.toNat - codeOf (atB x i).toNat) := by omega
  rw [h4] at eS
  have h5 := mod_zero eS (by omega) (by omega) (by omega)
  exact code_inj (by omega) hb
 have hay : ∀ k, atB (insW (delW x i) t b) k = if k < t then (if k < i then atB x k else atB x (k + 1)) else if k = t then atB x i else (if k - 1 < i then atB x (k - 1) else atB x (k - 1 + 1)) := by
  intro k
  rw [atB_ins _ _ _ _ (by omega), atB_del x i k hi, atB_del x i (k - 1) hi, hbx]
 generalize insW (delW x i) t b = y at *
 rcases Nat.lt_trichotomy i t with h | h | h
 · refine shifted_eq (i := i) (j := t) ⟨h, fun k hk => ?_, fun k hk => ?_, fun k h1 h2 => ?_, ?_⟩ x.length rfl hyl ht eT
   · rw [hay, if_pos (by omega), if_pos hk]
   · rw [hay, if_neg (by omega), if_neg (by omega), if_neg (by omega), Nat.sub_add_cancel (by omega)]
   · rw [hay, if_pos h2, if_neg (by omega)]
   · rw [hay, if_neg (by omega), if_pos rfl]
 · subst h
   have hat : ∀ k, atB y k = atB x k := by
    intro k
    rw [hay]
    by_cases h1 : k < i
    · rw [if_pos h1, if_pos h1]
    · rw [if_neg h1]
      by_cases h2 : k = i
      · rw [if_pos h2, h2]
      · rw [if_neg h2, if_neg (by omega), Nat.sub_add_cancel (by omega)]
   apply List.ext_getElem (by omega)
   intro k h1 h2
   have := hat k
   simp only [atB, List.getElem?_eq_getElem h1, List.getElem?_eq_getElem h2, Option.getD_some] at this
   exact this
 · refine (shifted_eq (x := y) (y := x) (i := t) (j := i) ⟨h, fun k hk => ?_, fun k hk => ?_, fun k h1 h2 => ?_, ?_⟩ x.length hyl rfl hi eT.symm).symm
   · rw [hay, if_pos hk, if_pos (by omega)]
   · rw [hay, if_neg (by omega), if_neg (by omega), if_neg (by omega), Nat.sub_add_cancel (by omega)]
   · rw [hay, if_neg (by omega), if_neg (by omega), Nat.add_sub_cancel, if_pos h2]
   · rw [hay, if_neg (by omega), if_pos rfl]
theorem ext_atB {x y : List UInt8} (hl : x.length = y.length) (h : ∀ k, k < x.length → atB x k = atB y k) : x = y := by
 apply List.ext_getElem hl
 intro k h1 h2
 have := h k h1
 simp only [atB, List.getElem?_eq_getElem h1, List.getElem?_eq_getElem h2, Option.getD_some] at this
 exact this
theorem ins_del_same (x : List UInt8) (p : Nat) (b : UInt8) (hp : p ≤ x.length) : delW (insW x p b) p = x := by
 have hl := insW_length x p b hp
 have hd := delW_length (insW x p b) p (by omega)
 refine ext_atB (by omega) fun k hk => ?_
 rw [atB_del _ _ _ (by omega), atB_ins _ _ _ _ hp, atB_ins _ _ _ _ hp]
 by_cases h : k < p
 · rw [if_pos h, if_pos h]
 · rw [if_neg h, if_neg (by omega), if_neg (by omega), Nat.add_sub_cancel]
theorem ins_del_low (x : List UInt8) (p q : Nat) (b : UInt8) (hp : p ≤ x.length) (hq : q < p) : delW (insW x p b) q = insW (delW x q) (p - 1) b := by
 have hl := insW_length x p b hp
 have hd := delW_length (insW x p b) q (by omega)
 have hdx := delW_length x q (by omega)
 have hix := insW_length (delW x q) (p - 1) b (by omega)
 refine ext_atB (by omega) fun k hk => ?_
 rw [atB_del _ _ _ (by omega), atB_ins _ _ _ _ hp, atB_ins _ _ _ _ hp, atB_ins _ _ _ _ (by omega), atB_del _ _ _ (by omega), atB_del _ _ _ (by omega)]
 by_cases h1 : k < q
 · rw [if_pos h1, if_pos (by omega), if_pos (by omega), if_pos h1]
 · rw [if_neg h1]
   by_cases h2 : k + 1 < p
   · rw [if_pos h2, if_pos (by omega), if_neg h1]
   · rw [if_neg h2]
     by_cases h3 : k + 1 = p
     · rw [if_pos h3, if_neg (by omega), if_pos (by omega)]
     · rw [if_neg h3, if_neg (by omega), if_neg (by omega), if_neg (by omega), Nat.add_sub_cancel, Nat.sub_add_cancel (by omega)]
theorem ins_del_high (x : List UInt8) (p q : Nat) (b : UInt8) (hp : p < q) (hq : q ≤ x.length) : delW (insW x p b) q = insW (delW x (q - 1)) p b := by
 have hl := insW_length x p b (by omega)
 have hd := delW_length (insW x p b) q (by omega)
 have hdx := delW_length x (q - 1) (by omega)
 have hix := insW_length (delW x (q - 1)) p b (by omega)
 refine ext_atB (by omega) fun k hk => ?_
 rw [atB_del _ _ _ (by omega), atB_ins _ _ _ _ (by omega), atB_ins _ _ _ _ (by omega), atB_ins _ _ _ _ (by omega), atB_del _ _ _ (by omega), atB_del _ _ _ (by omega)]
 by_cases h1 : k < p
 · rw [if_pos (by omega), if_pos h1, if_pos h1, if_pos (by omega)]
 · by_cases h2 : k = p
   · rw [if_pos (by omega), if_neg h1, if_pos h2, if_neg h1, if_pos h2]
   · rw [if_neg h1, if_neg h2, if_neg (show ¬ k + 1 < p by omega), if_neg (show ¬ k + 1 = p by omega), Nat.add_sub_cancel, if_neg h1, if_neg h2]
     by_cases h3 : k < q
     · rw [if_pos h3, if_pos (by omega)]
     · rw [if_neg h3, if_neg (by omega), Nat.sub_add_cancel (by omega)]
end Go.Proofs.YtkibigbcdlilkaaGreatDoor
namespace Go.Proofs.YtkibigbcdlilkaaGreatDoor
open Go.RowKit Go.Shelf
attribute [local go_sem] Oper.semAt_some inProg_round inProg_depth
abbrev eF (b : Bool) : Value := .bool b
def rCells (x : List UInt8) (n k : Nat) : Array Value := ((List.range n).map fun i => Value.bool (decide (i < k) && riseB x i)).toArray
theorem rCells_size (x : List UInt8) (n k : Nat) : (rCells x n k).size = n := by simp [rCells]
theorem rCells_set (x : List UInt8) (n k : Nat) : (rCells x n k).setIfInBounds k (.bool (riseB x k)) = rCells x n (k + 1) := by
 apply Array.ext
 · simp [rCells]
 · intro i h1 h2
   have hi : i < n := by simpa [rCells] using h2
   rw [Array.getElem_setIfInBounds (by simpa [rCells] using hi)]
   simp only [rCells, List.getElem_toArray, List.getElem_map, List.getElem_range]
   by_cases e : k = i
   · subst e
     rw [if_pos rfl]
     simp
   · rw [if_neg e]
     have : decide (i < k) = decide (i < k + 1) := by
      rw [decide_eq_decide]; omega
     rw [this]
theorem rCells_get (x : List UInt8) (n k i : Nat) (h : i < n) : (rCells x n k)[i]? = some (.bool (decide (i < k) && riseB x i)) := by
 rw [Array.getElem?_eq_getElem (by rw [rCells_size]; exact h)]
 simp [rCells]
theorem info_b : (Tryz.prog.info? 4).map (fun i => (i.zero, i.size, i.bytes)) = some (some (.bool false), 1, 1) := by kernel_rfl
set_option maxRecDepth 100000 in
set_option maxHeartbeats 4000000 in
theorem Rises_in (sv : Value) (x : List UInt8) (hreach : x.length ≤ 1000000) (w : World) (hS : Sl eB w.heap.size w sv x) (n : Nat) :
    CallsIn (Fence.inProg Tryz.prog) n Tryz.prog 137 #[sv] w fun e w' => Below w.heap.size w w' ∧ ∃ v, e = .returned v ∧ Sl eF w'.heap.size w' v ((List.range x.length).map (riseB x)) := by
  obtain ⟨A, c, rfl⟩ := hS.len
  obtain ⟨i0, hi, hz0, hz1, hz2⟩ := info_parts info_b
  have hmk : ∀ w, (Instr.makeSlice 137 (.int .i64 (x.length : Int)) (.int .i64 (x.length : Int))).run Tryz.prog w = .ok (.slice (some ⟨w.heap.size, 0, none⟩) x.length x.length) (w.alloc (.cells (rCells x x.length 0) 4)) := by
   intro w
   have h1 := run_make (P := Tryz.prog) w 137 4 i0 (.bool false) Tryz.underlying137 hi hz0 .i64 .i64 (x.length : Int) (x.length : Int) (by omega) (by omega) (by rw [hz2]; omega) (by omega)
   have h2 : madeCells (Value.bool false).cells ((x.length : Int).toNat * i0.size) = rCells x x.length 0 := by
    rw [hz1]
    apply Array.ext
    · simp [madeCells, rCells, Value.cells]
    · intro j _ _
      simp [madeCells, rCells, Value.cells, Nat.mod_one]
   rw [h2] at h1
   simpa using h1
  have hA := ((Below.refl w.heap.size w).alloc (Nat.le_refl _) (.cells (rCells x x.length 0) 4)).alloc (by simp) (.cells #[.slice (some ⟨w.heap.size, 0, none⟩) x.length x.length] 137)
  have hr := (Rowed.new w 4 (rCells x x.length 0)).alloc (.cells #[.slice (some ⟨w.heap.size, 0, none⟩) x.length x.length] 137)
  have hb := Boxed.new (w.alloc (.cells (rCells x x.length 0) 4)) 137 (.slice (some ⟨w.heap.size, 0, none⟩) x.length x.length)
  rw [World.size_alloc] at hb
  have hs0 : ((w.alloc (.cells (rCells x x.length 0) 4)).alloc (.cells #[.slice (some ⟨w.heap.size, 0, none⟩) x.length x.length] 137)).heap.size = w.heap.size + 2 := by simp
  refine callsIn_of_wp_marks Tryz.func137 rfl ⟨_, Tryz.func137⟩ ?_ rfl
  simp only [Tryz.ntmps137, List.size_toArray, List.length_cons, List.length_nil, Nat.reduceAdd, Nat.reduceSub, Array.replicate_succ, Array.replicate_zero, List.push_toArray, List.append_toArray, List.nil_append, List.cons_append]
  gi_wp2_with fail
  generalize (w.alloc (.cells (rCells x x.length 0) 4)).alloc (.cells #[.slice (some ⟨w.heap.size, 0, none⟩) x.length x.length] 137) = w1 at *
  refine ⟨⟨_, Tryz.func159⟩, ?_⟩
  gi_at_call 159
  refine (rising_in A x.length c _ w1).mono ?_
  rintro e w2 ⟨rfl, rfl⟩
  gi_wp2_with fail
  have hb3 := Boxed.new w1 22 (.slice A x.length c)
  have hA2 := hA.alloc (by omega) (.cells #[.slice A x.length c] 22)
  have hs2 : (w1.alloc (.cells #[.slice A x.length c] 22)).heap.size = w.heap.size + 3 := by simp; omega
  have hb' := hb.alloc (.cells #[.slice A x.length c] 22)
  have hr' := hr.alloc (.cells #[.slice A x.length c] 22)
  rw [hs0] at hb3
  generalize w1.alloc (.cells #[.slice A x.length c] 22) = w2 at *
  have hS2 := hS.below hA2
  have hne : 0 < x.length → ∀ a, A = some a → a.block < w.heap.size := by
   intro h0 a ha
   obtain ⟨A', c', e, _, hcs⟩ := hS
   injection e with e1 e2 e3
   subst e1
   obtain ⟨b, off, e4, hb, _⟩ := hcs h0
   rw [e4] at ha
   cases ha
   exact hb
  have hseq := rising_seq (w.heap.size + 2) (w.heap.size + 3) w.heap.size A c x hreach w2 (by omega) (by omega) (by omega) hb3.cell (hS2.more (by omega)) (fun h0 a ha => by have := hne h0 a ha; omega)
  clear hb hr hb3 hA hS hmk
  refine wpIn_range_P (gf := 165) (lb := #[.pointer (some ⟨w.heap.size + 2, 0, none⟩)]) (fun _ h => h) rfl rfl ⟨_, Tryz.func165⟩ rfl (enters_of Tryz.func165 (by kernel_rfl) rfl)
   hseq (fun _ _ _ => keep_t) (fun W l o o' h1 h2 h3 => keep_put (by omega) W l o o' h1 h2 h3) (Below.refl _ _) (fun _ => rfl)
   (fun (pre : List Nat) W => Rowed W w.heap.size 4 (rCells x x.length pre.length) ∧ Keep (w.heap.size + 3) w.heap.size w2 W)
   (fun _ _ => False)
   (fun _ _ => False)
   (OwnFrom.and (fun s X Y row hs hg hr => (hg.block _ (Rowed.lt hs) (fun e => by have := (hr _ e.symm).1; omega)).trans hs) (ownFrom_keep (by omega) (by omega)))
   ⟨hr', keep_r _ _ _⟩
   (fun _ _ _ _ _ h => h.elim)
   (fun j => { tmps := #[.slice A x.length c, undef, .slice none 0 0, .pointer (some ⟨w.heap.size + 1, 0, none⟩), .int .i64 (j : Nat), .bool (riseB x j), .slice A x.length c, .int .i64 x.length, .slice (some ⟨w.heap.size, 0, none⟩) x.length x.length, .slice A x.length c, .func (.func 165) #[] #[.pointer (some ⟨w.heap.size + 2, 0, none⟩)], .int .i64 (j : Nat), .bool (riseB x j), undef, undef, undef, undef, undef], defers := [] }) ?assign ?body ?done ?stop ?pan
  case assign =>
   intro l j W K hK
   gi_wp2
   exact hK
  case stop => rintro c D W _ h _; exact h.elim
  case pan => rintro ch D W _ h _; exact h.elim
  case body =>
   rintro l pre j W ⟨hr, hK⟩ hpre
   obtain ⟨hjn, rfl⟩ := range_is hpre
   clear hpre hseq
   rw [List.length_range] at hr
   have hpl : (List.range j ++ [j]).length = j + 1 := by simp
   have hbx : Boxed W (w.heap.size + 1) 137 (.slice (some ⟨w.heap.size, 0, none⟩) x.length x.length) := (hK.2 _ (by omega) (by omega)).trans hb'
   have cb := hbx.cell
   have c0 := hr.cell j
   rw [rCells_get x _ _ j hjn] at c0
   have f0 := hr.frozen j
   have hra := hr.set j (.bool (riseB x j))
   rw [rCells_set] at hra
   have hjx : (j : Int) < (x.length : Int) := by omega
   have hKS : KeepsFrom w2.heap.size W (W.setCell ⟨w.heap.size, j, none⟩ (.bool (riseB x j))) := keepsFrom_set _ hr _ _
   have hKK : Keep (w.heap.size + 3) w.heap.size W (W.setCell ⟨w.heap.size, j, none⟩ (.bool (riseB x j))) := keep_set _ _ _ _ _
   have Hr := Lib.hid hra
   clear hr hra hS2 hr'
   generalize (decide (j < j) && riseB x j) = old at *
   generalize riseB x j = r at *
   gi_wp2_with fail
   refine ⟨hKS, hKK, ?_, keep_t hK hKK⟩
   rw [hpl]
   exact Hr.out
  case done =>
   rintro D W hD ⟨hr, hK⟩ hk
   rw [List.length_range] at hr
   have hbx : Boxed W (w.heap.size + 1) 137 (.slice (some ⟨w.heap.size, 0, none⟩) x.length x.length) := (hK.2 _ (by omega) (by omega)).trans hb'
   have cb := hbx.cell
   have hsW := keep_size hK
   have hBw := (below_of_keep hK hA2 (by omega) (by omega)).trans (belowK_b (w := w) (Nat.le_refl _) W D _ (.deferred none) (by omega) hk rfl rfl)
   have hrow4 : Rowed (W.putObj D (.deferred none)) w.heap.size 4 (rCells x x.length x.length) := (World.putObj_heap_other (by omega)).trans hr
   clear hseq hS2
   gi_wp2_with fail
   refine ⟨by simp, .inl ⟨_, _, rfl, run_takeDeferred hk, ?_⟩⟩
   refine ⟨_, results_tmp rfl _ _ _, hBw, _, rfl, ?_⟩
   refine ⟨some ⟨w.heap.size, 0, none⟩, x.length, by simp, by simp, fun _ => ⟨w.heap.size, 0, rfl, Rowed.lt hrow4, fun i b hb => ?_⟩⟩
   rw [Nat.zero_add, hrow4.cell i]
   have hi : i < x.length := by have := (List.getElem?_eq_some_iff.1 hb).1; simpa using this
   rw [rCells_get x _ _ i hi]
   simp [hi] at hb
   rw [← hb]
   simp [hi]
end Go.Proofs.YtkibigbcdlilkaaGreatDoor
namespace Go.Proofs.YtkibigbcdlilkaaGreatDoor
open Go.RowKit Go.Shelf
theorem Of_yes (x : List UInt8) (a b c : Int) (h : sumsG x = .ok (a, b, c)) (hreach : x.length ≤ 1000000) (sv : Value) (w : World) (hT : Tab w) (hS : Sl eB w.heap.size w sv x) :
    Calls Tryz.prog 129 #[sv] w fun e w' => e = .returned (.tuple #[v3 a b c, .int .i64 0]) ∧ Below w.heap.size w w' :=
  (Of_any sv x hreach w hT hS).mono (by
   rintro e w' ⟨hB, ⟨a', b', c', hy, rfl⟩ | ⟨m, hm, rfl⟩⟩
   · rw [h] at hy; cases hy; exact ⟨rfl, hB⟩
   · rw [h] at hm; cases hm)
theorem Of_no (x : List UInt8) (m : Int) (h : sumsG x = .error m) (hreach : x.length ≤ 1000000) (sv : Value) (w : World) (hT : Tab w) (hS : Sl eB w.heap.size w sv x) :
    Calls Tryz.prog 129 #[sv] w fun e w' => e = .returned (.tuple #[v3 0 0 0, .int .i64 m]) ∧ Below w.heap.size w w' :=
  (Of_any sv x hreach w hT hS).mono (by
   rintro e w' ⟨hB, ⟨a', b', c', hy, rfl⟩ | ⟨m', hm, rfl⟩⟩
   · rw [h] at hy; cases hy
   · rw [h] at hm; cases hm; exact ⟨rfl, hB⟩)
theorem Rises_any (sv : Value) (x : List UInt8) (hreach : x.length ≤ 1000000) (w : World) (hS : Sl eB w.heap.size w sv x) :
    Calls Tryz.prog 137 #[sv] w fun e w' => Below w.heap.size w w' ∧ ∃ v, e = .returned v ∧ Sl eF w'.heap.size w' v ((List.range x.length).map (riseB x)) := callsIn_inProg (Rises_in sv x hreach w hS 0)
end Go.Proofs.YtkibigbcdlilkaaGreatDoor
namespace Go.Proofs.YtkibigbcdlilkaaGreatDoor.Gp
open Go.RowKit Go.Shelf
attribute [local go_sem] Oper.semAt_some inProg_round inProg_depth
set_option maxRecDepth 100000 in
set_option maxHeartbeats 4000000 in
theorem risesAt_in (sv : Value) (x : List UInt8) (hreach : x.length ≤ 1000000) (w : World) (hS : Sl eB w.heap.size w sv x) (n : Nat) :
    CallsIn (Fence.inProg Tryz.prog) n Tryz.prog 137 #[sv] w fun e w' => Below w.heap.size w w' ∧ e = .returned (.slice (some ⟨w.heap.size, 0, none⟩) x.length x.length) ∧ w.heap.size < w'.heap.size ∧ ∀ i, i < x.length → w'.cell? ⟨w.heap.size, i, none⟩ = some (eF (riseB x i)) := by
  obtain ⟨A, c, rfl⟩ := hS.len
  obtain ⟨i0, hi, hz0, hz1, hz2⟩ := info_parts info_b
  have hmk : ∀ w, (Instr.makeSlice 137 (.int .i64 (x.length : Int)) (.int .i64 (x.length : Int))).run Tryz.prog w = .ok (.slice (some ⟨w.heap.size, 0, none⟩) x.length x.length) (w.alloc (.cells (rCells x x.length 0) 4)) := by
   intro w
   have h1 := run_make (P := Tryz.prog) w 137 4 i0 (.bool false) Tryz.underlying137 hi hz0 .i64 .i64 (x.length : Int) (x.length : Int) (by omega) (by omega) (by rw [hz2]; omega) (by omega)
   have h2 : madeCells (Value.bool false).cells ((x.length : Int).toNat * i0.size) = rCells x x.length 0 := by
    rw [hz1]
    apply Array.ext
    · simp [madeCells, rCells, Value.cells]
    · intro j _ _
      simp [madeCells, rCells, Value.cells, Nat.mod_one]
   rw [h2] at h1
   simpa using h1
  have hA := ((Below.refl w.heap.size w).alloc (Nat.le_refl _) (.cells (rCells x x.length 0) 4)).alloc (by simp) (.cells #[.slice (some ⟨w.heap.size, 0, none⟩) x.length x.length] 137)
  have hr := (Rowed.new w 4 (rCells x x.length 0)).alloc (.cells #[.slice (some ⟨w.heap.size, 0, none⟩) x.length x.length] 137)
  have hb := Boxed.new (w.alloc (.cells (rCells x x.length 0) 4)) 137 (.slice (some ⟨w.heap.size, 0, none⟩) x.length x.length)
  rw [World.size_alloc] at hb
  have hs0 : ((w.alloc (.cells (rCells x x.length 0) 4)).alloc (.cells #[.slice (some ⟨w.heap.size, 0, none⟩) x.length x.length] 137)).heap.size = w.heap.size + 2 := by simp
  refine callsIn_of_wp_marks Tryz.func137 rfl ⟨_, Tryz.func137⟩ ?_ rfl
  simp only [Tryz.ntmps137, List.size_toArray, List.length_cons, List.length_nil, Nat.reduceAdd, Nat.reduceSub, Array.replicate_succ, Array.replicate_zero, List.push_toArray, List.append_toArray, List.nil_append, List.cons_append]
  gi_wp2_with fail
  generalize (w.alloc (.cells (rCells x x.length 0) 4)).alloc (.cells #[.slice (some ⟨w.heap.size, 0, none⟩) x.length x.length] 137) = w1 at *
  refine ⟨⟨_, Tryz.func159⟩, ?_⟩
  gi_at_call 159
  refine (rising_in A x.length c _ w1).mono ?_
  rintro e w2 ⟨rfl, rfl⟩
  gi_wp2_with fail
  have hb3 := Boxed.new w1 22 (.slice A x.length c)
  have hA2 := hA.alloc (by omega) (.cells #[.slice A x.length c] 22)
  have hs2 : (w1.alloc (.cells #[.slice A x.length c] 22)).heap.size = w.heap.size + 3 := by simp; omega
  have hb' := hb.alloc (.cells #[.slice A x.length c] 22)
  have hr' := hr.alloc (.cells #[.slice A x.length c] 22)
  rw [hs0] at hb3
  generalize w1.alloc (.cells #[.slice A x.length c] 22) = w2 at *
  have hS2 := hS.below hA2
  have hne : 0 < x.length → ∀ a, A = some a → a.block < w.heap.size := by
   intro h0 a ha
   obtain ⟨A', c', e, _, hcs⟩ := hS
   injection e with e1 e2 e3
   subst e1
   obtain ⟨b, off, e4, hb, _⟩ := hcs h0
   rw [e4] at ha
   cases ha
   exact hb
  have hseq := rising_seq (w.heap.size + 2) (w.heap.size + 3) w.heap.size A c x hreach w2 (by omega) (by omega) (by omega) hb3.cell (hS2.more (by omega)) (fun h0 a ha => by have := hne h0 a ha; omega)
  clear hb hr hb3 hA hS hmk
  refine wpIn_range_P (gf := 165) (lb := #[.pointer (some ⟨w.heap.size + 2, 0, none⟩)]) (fun _ h => h) rfl rfl ⟨_, Tryz.func165⟩ rfl (enters_of Tryz.func165 (by kernel_rfl) rfl)
   hseq (fun _ _ _ => keep_t) (fun W l o o' h1 h2 h3 => keep_put (by omega) W l o o' h1 h2 h3) (Below.refl _ _) (fun _ => rfl)
   (fun (pre : List Nat) W => Rowed W w.heap.size 4 (rCells x x.length pre.length) ∧ Keep (w.heap.size + 3) w.heap.size w2 W)
   (fun _ _ => False)
   (fun _ _ => False)
   (OwnFrom.and (fun s X Y row hs hg hr => (hg.block _ (Rowed.lt hs) (fun e => by have := (hr _ e.symm).1; omega)).trans hs) (ownFrom_keep (by omega) (by omega)))
   ⟨hr', keep_r _ _ _⟩
   (fun _ _ _ _ _ h => h.elim)
   (fun j => { tmps := #[.slice A x.length c, undef, .slice none 0 0, .pointer (some ⟨w.heap.size + 1, 0, none⟩), .int .i64 (j : Nat), .bool (riseB x j), .slice A x.length c, .int .i64 x.length, .slice (some ⟨w.heap.size, 0, none⟩) x.length x.length, .slice A x.length c, .func (.func 165) #[] #[.pointer (some ⟨w.heap.size + 2, 0, none⟩)], .int .i64 (j : Nat), .bool (riseB x j), undef, undef, undef, undef, undef], defers := [] }) ?assign ?body ?done ?stop ?pan
  case assign =>
   intro l j W K hK
   gi_wp2
   exact hK
  case stop => rintro c D W _ h _; exact h.elim
  case pan => rintro ch D W _ h _; exact h.elim
  case body =>
   rintro l pre j W ⟨hr, hK⟩ hpre
   obtain ⟨hjn, rfl⟩ := range_is hpre
   clear hpre hseq
   rw [List.length_range] at hr
   have hpl : (List.range j ++ [j]).length = j + 1 := by simp
   have hbx : Boxed W (w.heap.size + 1) 137 (.slice (some ⟨w.heap.size, 0, none⟩) x.length x.length) := (hK.2 _ (by omega) (by omega)).trans hb'
   have cb := hbx.cell
   have c0 := hr.cell j
   rw [rCells_get x _ _ j hjn] at c0
   have f0 := hr.frozen j
   have hra := hr.set j (.bool (riseB x j))
   rw [rCells_set] at hra
   have hjx : (j : Int) < (x.length : Int) := by omega
   have hKS : KeepsFrom w2.heap.size W (W.setCell ⟨w.heap.size, j, none⟩ (.bool (riseB x j))) := keepsFrom_set _ hr _ _
   have hKK : Keep (w.heap.size + 3) w.heap.size W (W.setCell ⟨w.heap.size, j, none⟩ (.bool (riseB x j))) := keep_set _ _ _ _ _
   have Hr := Lib.hid hra
   clear hr hra hS2 hr'
   generalize (decide (j < j) && riseB x j) = old at *
   generalize riseB x j = r at *
   gi_wp2_with fail
   refine ⟨hKS, hKK, ?_, keep_t hK hKK⟩
   rw [hpl]
   exact Hr.out
  case done =>
   rintro D W hD ⟨hr, hK⟩ hk
   rw [List.length_range] at hr
   have hbx : Boxed W (w.heap.size + 1) 137 (.slice (some ⟨w.heap.size, 0, none⟩) x.length x.length) := (hK.2 _ (by omega) (by omega)).trans hb'
   have cb := hbx.cell
   have hsW := keep_size hK
   have hBw := (below_of_keep hK hA2 (by omega) (by omega)).trans (belowK_b (w := w) (Nat.le_refl _) W D _ (.deferred none) (by omega) hk rfl rfl)
   have hrow4 : Rowed (W.putObj D (.deferred none)) w.heap.size 4 (rCells x x.length x.length) := (World.putObj_heap_other (by omega)).trans hr
   clear hseq hS2
   gi_wp2_with fail
   refine ⟨by simp, .inl ⟨_, _, rfl, run_takeDeferred hk, ?_⟩⟩
   refine ⟨_, results_tmp rfl _ _ _, hBw, rfl, Rowed.lt hrow4, fun i hi => ?_⟩
   rw [hrow4.cell i, rCells_get x _ _ i hi]
   simp [hi]
theorem RisesAt_any (sv : Value) (x : List UInt8) (hreach : x.length ≤ 1000000) (w : World) (hS : Sl eB w.heap.size w sv x) :
    Calls Tryz.prog 137 #[sv] w fun e w' => Below w.heap.size w w' ∧ e = .returned (.slice (some ⟨w.heap.size, 0, none⟩) x.length x.length) ∧ w.heap.size < w'.heap.size ∧ ∀ i, i < x.length → w'.cell? ⟨w.heap.size, i, none⟩ = some (eF (riseB x i)) := callsIn_inProg (risesAt_in sv x hreach w hS 0)
end Go.Proofs.YtkibigbcdlilkaaGreatDoor.Gp
namespace Go.Proofs.YtkibigbcdlilkaaGreatDoor.Sw
open Go.RowKit Go.Shelf
theorem mod_hit {A E m w : Int} (h0 : 0 ≤ w) (h1 : w < m) : (A % m + E - w) % m = 0 ↔ (A + E) % m = w := by
 have e : (A + E) % m = (A % m + E) % m := by rw [Int.emod_add_emod]
 rw [e]
 generalize A % m + E = X
 constructor
 · intro h
   obtain ⟨k, hk⟩ := Int.dvd_of_emod_eq_zero h
   have : X = w + m * k := by omega
   rw [this, Int.add_mul_emod_self_left, Int.emod_eq_of_lt h0 h1]
 · intro h
   have h2 := Int.emod_add_mul_ediv X m
   have : X - w = m * (X / m) := by omega
   rw [this, Int.mul_emod_right]
def swC (d q : Int) : Int := (q + d + 4) % 4
theorem swC_range (d q : Int) : 0 ≤ swC d q ∧ swC d q < 4 := by unfold swC; omega
def hitB (y : List UInt8) (s w : Int) (p : Nat) : Bool :=
 decide ((sW y y.length % (6 * y.length + 1) + (swC (s - sS y y.length % 4) (codeOf (atB y p).toNat) - codeOf (atB y p).toNat) * ((p : Int) + 1) - w) % (6 * y.length + 1) = 0)
def letB (y : List UInt8) (s : Int) (p : Nat) : UInt8 := letterOf (swC (s - sS y y.length % 4) (codeOf (atB y p).toNat))
def FourL (y : List UInt8) : Prop := ∀ k, k < y.length → codeOf (atB y k).toNat ≠ -1
theorem FourL.set {y : List UInt8} (h : FourL y) (p : Nat) {c : UInt8} (hc : codeOf c.toNat ≠ -1) : FourL (y.set p c) := by
 intro k hk
 rw [List.length_set] at hk
 by_cases e : p = k
 · subst e; rw [atB_set y p c hk]; exact hc
 · rw [atB_set_other y c e]; exact h k hk
theorem letB_code (y : List UInt8) (s : Int) (p : Nat) : codeOf (letB y s p).toNat = swC (s - sS y y.length % 4) (codeOf (atB y p).toNat) := by
 have := swC_range (s - sS y y.length % 4) (codeOf (atB y p).toNat)
 rw [letB, letterOf_code, Int.emod_eq_of_lt this.1 this.2]
theorem letB_S (y : List UInt8) (s : Int) (p : Nat) (hp : p < y.length) (h0 : 0 ≤ s) (h4 : s < 4) : sS (y.set p (letB y s p)) y.length % 4 = s := by
 rw [sS_set y p _ hp, if_pos hp, letB_code]
 unfold swC
 omega
theorem hit_iff (y : List UInt8) (s w : Int) (p : Nat) (hp : p < y.length) (h0 : 0 ≤ w) (h1 : w ≤ 6 * y.length) :
    hitB y s w p = true ↔ sW (y.set p (letB y s p)) y.length % (6 * y.length + 1) = w := by
  rw [sW_set y p _ hp, if_pos hp, letB_code, hitB, decide_eq_true_eq]
  exact mod_hit h0 (by omega)
theorem letB_only (y : List UInt8) (hy : FourL y) (s : Int) (p : Nat) (c : UInt8) (hp : p < y.length) (hc : codeOf c.toNat ≠ -1) (hs : sS (y.set p c) y.length % 4 = s) : c = letB y s p := by
 have hb := code_bound hc
 have hb2 := code_bound (hy p hp)
 rw [sS_set y p c hp, if_pos hp] at hs
 refine code_inj ?_ hc
 rw [letB_code]
 unfold swC
 omega
theorem hit_only (y : List UInt8) (hy : FourL y) (s w : Int) (p : Nat) (c : UInt8) (hp : p < y.length) (hc : codeOf c.toNat ≠ -1) (h0 : 0 ≤ w) (h1 : w ≤ 6 * y.length) (hs : sS (y.set p c) y.length % 4 = s) (hw : sW (y.set p c) y.length % (6 * y.length + 1) = w) : hitB y s w p = true ∧ c = letB y s p := by
 have e := letB_only y hy s p c hp hc hs
 refine ⟨(hit_iff y s w p hp h0 h1).2 ?_, e⟩
 rw [← e]; exact hw
def findG (y : List UInt8) (s w : Int) : Except Int (Int × UInt8) :=
 match sumsG y with
 | .error m => .error m
 | .ok (_, S, W) => if S = s ∧ W = w then .ok (-1, 0) else if ¬ (0 ≤ s ∧ s < 4 ∧ 0 ≤ w ∧ w ≤ 6 * y.length) then .error 130 else
   match (List.range y.length).find? (hitB y s w) with
   | none => .error 130
   | some p => .ok ((p : Int), letB y s p)
def byG (y : List UInt8) (z : Int) (c : UInt8) : Except Int (List UInt8) :=
 if 1000 < y.length ∨ z < 0 ∨ (y.length : Int) ≤ z then .error 2 else
   match sumsG y with
   | .error m => .error m
   | .ok _ => if codeOf c.toNat = -1 then .error 10 else .ok (y.set z.toNat c)
def swapG (y : List UInt8) (s w : Int) : Except Int (List UInt8) :=
 match findG y s w with
 | .error m => .error m
 | .ok (z, c) => if z = -1 then .ok y else byG y z c
theorem sums_cases (y : List UInt8) : (mayB y.length = false ∧ sumsG y = .error 2) ∨ (2 ≤ y.length ∧ y.length ≤ 1000 ∧ ¬ FourL y ∧ sumsG y = .error 10) ∨
    (2 ≤ y.length ∧ y.length ≤ 1000 ∧ FourL y ∧ sumsG y = .ok (sT y y.length % y.length, sS y y.length % 4, sW y y.length % (6 * y.length + 1))) := by
  cases hm : mayB y.length with
  | false => exact .inl ⟨rfl, by rw [sumsG, if_pos hm]⟩
  | true =>
    have hn : 2 ≤ y.length ∧ y.length ≤ 1000 := by
     unfold mayB at hm
     rw [Bool.and_eq_true] at hm
     have h1 := of_decide_eq_true hm.1
     have h2 := of_decide_eq_true hm.2
     omega
    by_cases h : FourL y
    · exact .inr (.inr ⟨hn.1, hn.2, h, four_sums y hn.1 hn.2 h⟩)
    · refine .inr (.inl ⟨hn.1, hn.2, h, ?_⟩)
      have : ∃ k, k < y.length ∧ codeOf (atB y k).toNat = -1 := by
       apply Classical.byContradiction
       intro hne
       exact h fun k hk e => hne ⟨k, hk, e⟩
      rw [sumsG, if_neg (by rw [hm]; simp), if_pos this]
theorem find_first {n : Nat} {f : Nat → Bool} {p : Nat} (hp : p < n) (h : f p = true) (hno : ∀ j, j < p → f j = false) : (List.range n).find? f = some p := by
 rw [List.find?_range_eq_some]
 exact ⟨h, by simpa using hp, by simpa using hno⟩
theorem find_not {n : Nat} {f : Nat → Bool} (hno : ∀ j, j < n → f j = false) : (List.range n).find? f = none := by
 rw [List.find?_eq_none]
 intro x hx
 rw [hno x (by simpa using hx)]
 simp
end Go.Proofs.YtkibigbcdlilkaaGreatDoor.Sw
namespace Go.Proofs.YtkibigbcdlilkaaGreatDoor.Ex
open Go.RowKit Go.Shelf
theorem sT_set (x : List UInt8) (p : Nat) (c : UInt8) (hp : p < x.length) (n : Nat) : sT (x.set p c) n - sT x n =
    (if p < n then (p : Int) * (ro (x.set p c) p - ro x p) else 0) + (if p + 1 < n then ((p : Int) + 1) * (ro (x.set p c) (p + 1) - ro x (p + 1)) else 0) := by
  induction n with
  | zero => simp [sT]
  | succ n ih =>
    rw [sT_succ, sT_succ]
    by_cases h1 : n = p
    · subst h1
      rw [if_neg (by omega), if_neg (by omega)] at ih
      rw [if_pos (by omega), if_neg (by omega), Int.mul_sub]
      omega
    · by_cases h2 : n = p + 1
      · subst h2
        rw [if_pos (by omega), if_neg (by omega)] at ih
        rw [if_pos (by omega), if_pos (by omega), Int.mul_sub, Int.mul_sub]
        rw [Int.mul_sub] at ih
        push_cast
        omega
      · have e : ro (x.set p c) n = ro x n := ro_congr (atB_set_other x c (fun e => h1 e.symm)) (fun _ => atB_set_other x c (by omega))
        rw [e]
        by_cases h3 : p < n
        · rw [if_pos h3, if_pos (by omega)] at ih
          rw [if_pos (by omega), if_pos (by omega)]
          omega
        · rw [if_neg h3, if_neg (by omega)] at ih
          rw [if_neg (by omega), if_neg (by omega)]
          omega
def arG (x : List UInt8) (p : Nat) : Int := (p : Int) * ro x p + (if p + 1 < x.length then ((p : Int) + 1) * ro x (p + 1) else 0)
theorem sT_around (x : List UInt8) (p : Nat) (c : UInt8) (hp : p < x.length) : sT (x.set p c) x.length - arG (x.set p c) p = sT x x.length - arG x p := by
 have h := sT_set x p c hp x.length
 rw [if_pos hp] at h
 unfold arG
 rw [List.length_set]
 by_cases h1 : p + 1 < x.length
 · rw [if_pos h1] at h
   rw [if_pos h1, if_pos h1]
   rw [Int.mul_sub, Int.mul_sub] at h
   omega
 · rw [if_neg h1] at h
   rw [if_neg h1, if_neg h1]
   rw [Int.mul_sub] at h
   omega
theorem del_set (y : List UInt8) (p : Nat) (hp : p + 1 < y.length) : delW y (p + 1) = (delW y p).set p (atB y p) := by
 have h1 := delW_length y p (by omega)
 have h2 := delW_length y (p + 1) hp
 refine ext_atB (by simp; omega) fun k hk => ?_
 rw [atB_del y (p + 1) k hp]
 by_cases h : p = k
 · subst h
   rw [if_pos (by omega), atB_set _ _ _ (by omega)]
 · rw [atB_set_other _ _ h, atB_del y p k (by omega)]
   by_cases h3 : k < p
   · rw [if_pos (by omega), if_pos h3]
   · rw [if_neg (by omega), if_neg h3]
theorem step_T (y : List UInt8) (p n : Nat) (hn : n + 1 = y.length) (hp : p + 1 < y.length) : (sT (delW y p) n % n - arG (delW y p) p + arG (delW y (p + 1)) p) % (n : Int) = sT (delW y (p + 1)) n % n := by
 have h1 := delW_length y p (by omega)
 have hl : (delW y p).length = n := by omega
 have h := sT_around (delW y p) p (atB y p) (by omega)
 rw [← del_set y p hp, hl] at h
 rw [show sT (delW y p) n % n - arG (delW y p) p + arG (delW y (p + 1)) p = sT (delW y p) n % n + (arG (delW y (p + 1)) p - arG (delW y p) p) by omega, Int.emod_add_emod]
 congr 1
 omega
theorem step_S (y : List UInt8) (p n : Nat) (hn : n + 1 = y.length) (hp : p + 1 < y.length) : (sS (delW y p) n % 4 + (codeOf (atB y p).toNat - codeOf (atB y (p + 1)).toNat)) % 4 = sS (delW y (p + 1)) n % 4 := by
 have h1 := delW_length y p (by omega)
 have ha : atB (delW y p) p = atB y (p + 1) := by rw [atB_del y p p (by omega), if_neg (by omega)]
 rw [del_set y p hp, sS_set (delW y p) p (atB y p) (by omega) n, if_pos (by omega), ha, Int.emod_add_emod]
theorem step_W (y : List UInt8) (p n : Nat) (hn : n + 1 = y.length) (hp : p + 1 < y.length) : (sW (delW y p) n % (6 * n + 1) + (codeOf (atB y p).toNat - codeOf (atB y (p + 1)).toNat) * ((p : Int) + 1)) % (6 * (n : Int) + 1) = sW (delW y (p + 1)) n % (6 * n + 1) := by
 have h1 := delW_length y p (by omega)
 have ha : atB (delW y p) p = atB y (p + 1) := by rw [atB_del y p p (by omega), if_neg (by omega)]
 rw [del_set y p hp, sW_set (delW y p) p (atB y p) (by omega) n, if_pos (by omega), ha, Int.emod_add_emod]
theorem arG_bound (x : List UInt8) (p : Nat) (hp : p < x.length) : 0 ≤ arG x p ∧ arG x p ≤ 2 * (x.length : Int) := by
 unfold arG
 rcases ro_01 x p with h | h <;> rcases ro_01 x (p + 1) with h2 | h2 <;> rw [h, h2] <;> split <;> omega
end Go.Proofs.YtkibigbcdlilkaaGreatDoor.Ex
