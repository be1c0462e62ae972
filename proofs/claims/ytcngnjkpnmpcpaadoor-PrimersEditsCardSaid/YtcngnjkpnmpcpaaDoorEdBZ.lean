import Derived.Deep.CutRange
import Derived.Deep.QuietTactic
import Derived.Deep.LoopGhost
import Derived.Test.YtcngnjkpnmpcpaaDoorEdAZ
import Derived.Test.YtcngnjkpnmpcpaaDoorIVZ
import Derived.Test.YtcngnjkpnmpcpaaDoorLvBZ
namespace Go.Proofs.YtcngnjkpnmpcpaaDoor
open Go.RowKit Go.Shelf
attribute [local go_sem] Oper.semAt_some run_store_func
theorem looked_any (x : List UInt8) (A : Option Addr) (cap : Nat) (hc : x.length ≤ cap) (w : World) :
    Calls Tryd.prog 54 #[.slice A x.length cap] w fun e w' => e = .returned (.slice A (x.take 1000).length cap) ∧ w = w' := by
  by_cases h : 1000 < x.length
  · have h1 : (1000 : Int) < (x.length : Int) := by omega
    have hl : (x.take 1000).length = 1000 := by rw [List.length_take]; omega
    rw [hl]
    go_enter Tryd.func54, Tryd.ntmps54
    go_wp2_with fail
    go_ret
    exact ⟨rfl, rfl⟩
  · have h1 : ¬ (1000 : Int) < (x.length : Int) := by omega
    have hl : x.take 1000 = x := List.take_of_length_le (by omega)
    rw [hl]
    go_enter Tryd.func54, Tryd.ntmps54
    go_wp2_with fail
    go_ret
    exact ⟨rfl, rfl⟩
theorem below_set1 {B g : Nat} {w W : World} (h : Below B w W) (hg : B ≤ g) (j : Nat) (v : Value) : Below B w (W.setCell ⟨g, j, none⟩ v) := h.trans ⟨rfl, rfl, rfl, by simp [World.setCell], fun k hk => Below.heap_setCell _ _ _ _ (by show k ≠ g; omega)⟩
theorem wz (z : Int) (h : -1000000 ≤ z) (h' : z ≤ 1000000) : wrap64 z = z := IntWalk.wrap64_in _ (by omega)
theorem iz (z : Int) (h : -1000000 ≤ z) (h' : z ≤ 1000000) : IntKind.i64.wrap z = z := IntWalk.i64_in _ (by omega)
theorem old_out (e : Nat → Nat → Bool) (la lb n : Nat) (k : Int) (h : ¬ inR la lb (n + 1) k) : rch e la lb n k = -2000 := by
 cases n with
 | zero =>
   rw [rch_zero]
   by_cases h0 : k = 0
   · exact absurd ⟨by omega, by omega, by omega, by omega⟩ h
   · rw [if_neg h0]
 | succ m =>
   refine rch_out e la lb m k fun h2 => h ?_
   obtain ⟨q1, q2, q3, q4⟩ := h2
   exact ⟨by omega, q2, by omega, q4⟩
theorem ext_stop (e : Nat → Nat → Bool) (la lb fu : Nat) (k : Int) (i : Nat) (hf : la ≤ i + fu) (h : ¬ ((i : Int) < la ∧ (i : Int) + k < lb ∧ e i ((i : Int) + k).toNat = true)) : extG e la lb fu k i = i := by
 cases fu with
 | zero => rfl
 | succ f => rw [extG, if_neg (by simpa using h)]
theorem ext_on (e : Nat → Nat → Bool) (la lb fu : Nat) (k : Int) (i : Nat) (hf : la ≤ i + fu) (h1 : (i : Int) < la) (h2 : (i : Int) + k < lb) (h3 : e i ((i : Int) + k).toNat = true) : ∃ f, la ≤ i + 1 + f ∧ extG e la lb fu k i = extG e la lb f k ((i + 1 : Nat) : Int) := by
 cases fu with
 | zero => omega
 | succ f =>
   refine ⟨f, by omega, ?_⟩
   rw [extG, if_pos ⟨h1, h2, by simpa using h3⟩]
   rfl
theorem w_succ (n : Nat) (h : n ≤ 1000) : wrap64 ((n : Int) + 1) = ((n + 1 : Nat) : Int) := by rw [wz _ (by omega) (by omega)]; omega
theorem i_succ (n : Nat) (h : n ≤ 1000) : IntKind.i64.wrap ((n : Int) + 1) = ((n + 1 : Nat) : Int) := by rw [iz _ (by omega) (by omega)]; omega
theorem round_nums (la lb M N n : Nat) (k k0 kx : Int) (g : Nat) (hM : M ≤ 1000) (ha : la ≤ 1000) (hb : lb ≤ 1000) (hN : N = 2 * (M + 1) + 1) (hn : n ≤ M) (h0 : max (-(n : Int)) (-(la : Int)) = k0) (h1 : min (n : Int) (lb : Int) = kx) (hk : k + ((g + 1 : Nat) : Int) = kx + 1) (hk0 : k0 ≤ k) :
    inR la lb n k ∧ -1000 ≤ k ∧ k ≤ 1000 ∧ ∃ x y z : Nat, (x : Int) = (M : Int) + 1 + k ∧ (y : Int) = (x : Int) - 1 ∧ (z : Int) = (x : Int) + 1 ∧ z < N := by
  refine ⟨⟨by omega, by omega, by omega, by omega⟩, by omega, by omega, ((M : Int) + 1 + k).toNat, ((M : Int) + 1 + k).toNat - 1, ((M : Int) + 1 + k).toNat + 1, by omega, by omega, by omega, by omega⟩
theorem w_is (z v : Int) (h : v = z) (h0 : -1000000 ≤ z) (h1 : z ≤ 1000000) : wrap64 z = v ∧ IntKind.i64.wrap z = v := ⟨by rw [wz z h0 h1, h], by rw [iz z h0 h1, h]⟩
theorem cellsI_at {wr : World} {g N : Nat} {f : Int → Int} {c k : Int} (h : Rowed wr g 3 (cellsI (fun p => f ((p : Int) - c)) N)) (x : Nat) (hx : x < N) (hk : (x : Int) - c = k) : wr.cell? ⟨g, x, none⟩ = some (eI (f k)) := by
 rw [h.cell x, cellsI_get _ _ _ hx, hk]
theorem loop_done (la lb n : Nat) (k kx : Int) (h1 : min (n : Int) (lb : Int) = kx) (hk : k = kx + 1) (q : Int) (hc : inR la lb n q) : q < k := by
 obtain ⟨q1, q2, q3, q4⟩ := hc
 omega
theorem ghost_next {n g c : Nat} (h : n + (g + 1) = c) : n + 1 + g = c := by omega
theorem ghost_nextI {k c : Int} {g : Nat} (h : k + ((g + 1 : Nat) : Int) = c) : k + 1 + (g : Int) = c := by omega
theorem round_facts (e : Nat → Nat → Bool) (la lb M N n : Nat) (k k0 kx : Int) (g : Nat) (hM : M ≤ 1000) (ha : la ≤ 1000) (hb : lb ≤ 1000) (hN : N = 2 * (M + 1) + 1) (hn : n ≤ M) (h0 : max (-(n : Int)) (-(la : Int)) = k0) (h1 : min (n : Int) (lb : Int) = kx) (hk : k + ((g + 1 : Nat) : Int) = kx + 1) (hk0 : k0 ≤ k) :
    inR la lb n k ∧ k ≤ kx ∧ (-1000 ≤ k ∧ k ≤ 1000) ∧ ∃ (x y z i0 : Nat) (r0 r1 r2 : Int), ((x : Int) = (M : Int) + 1 + k ∧ (x : Int) - ((M : Int) + 1) = k ∧ (y : Int) - ((M : Int) + 1) = k - 1 ∧ (z : Int) - ((M : Int) + 1) = k + 1) ∧ (x < N ∧ y < N ∧ z < N) ∧
      (rch e la lb n k = r0 ∧ rch e la lb n (k - 1) = r1 ∧ rch e la lb n (k + 1) = r2) ∧ min (min (max (max (r0 + 1) r1) (r2 + 1)) (la : Int)) ((lb : Int) - k) = (i0 : Int) ∧ (∃ j0 : Nat, (j0 : Int) = i0 + k ∧ i0 ≤ la ∧ j0 ≤ lb) ∧ rch e la lb (n + 1) k = extG e la lb la k i0 ∧
      (wrap64 ((M : Int) + 1 + k) = (x : Int) ∧ wrap64 ((x : Int) - 1) = (y : Int) ∧ wrap64 ((x : Int) + 1) = (z : Int) ∧ wrap64 (r0 + 1) = r0 + 1 ∧ wrap64 (r2 + 1) = r2 + 1 ∧ wrap64 ((lb : Int) - k) = (lb : Int) - k) ∧
      (IntKind.i64.wrap ((M : Int) + 1 + k) = (x : Int) ∧ IntKind.i64.wrap ((x : Int) - 1) = (y : Int) ∧ IntKind.i64.wrap ((x : Int) + 1) = (z : Int) ∧ IntKind.i64.wrap (r0 + 1) = r0 + 1 ∧ IntKind.i64.wrap (r2 + 1) = r2 + 1 ∧ IntKind.i64.wrap ((lb : Int) - k) = (lb : Int) - k) := by
  obtain ⟨hin, hka, hkb, x, y, z, hx, hy, hz, hzN⟩ := round_nums la lb M N n k k0 kx g hM ha hb hN hn h0 h1 hk hk0
  obtain ⟨i0, j0, hst, hj0, hi0, hjb⟩ := start_rch e la lb n k hin
  have htg := rch_in e la lb n k hin
  rw [hst] at htg
  have hb0 := rch_bound e la lb n k
  have hb2 := rch_bound e la lb n (k + 1)
  have q0 : k ≤ kx := by omega
  have q1 : (x : Int) - ((M : Int) + 1) = k ∧ (y : Int) - ((M : Int) + 1) = k - 1 ∧ (z : Int) - ((M : Int) + 1) = k + 1 := by omega
  have q2 : x < N ∧ y < N := by omega
  have q3 : -1000000 ≤ (M : Int) + 1 + k ∧ (M : Int) + 1 + k ≤ 1000000 := by omega
  have q4 : -1000000 ≤ (x : Int) - 1 ∧ (x : Int) - 1 ≤ 1000000 := by omega
  have q5 : -1000000 ≤ (x : Int) + 1 ∧ (x : Int) + 1 ≤ 1000000 := by omega
  have q6 : -1000000 ≤ rch e la lb n k + 1 ∧ rch e la lb n k + 1 ≤ 1000000 := by omega
  have q7 : -1000000 ≤ rch e la lb n (k + 1) + 1 ∧ rch e la lb n (k + 1) + 1 ≤ 1000000 := by omega
  have q8 : -1000000 ≤ (lb : Int) - k ∧ (lb : Int) - k ≤ 1000000 := by omega
  have p1 := w_is ((M : Int) + 1 + k) x hx q3.1 q3.2
  have p2 := w_is ((x : Int) - 1) y hy q4.1 q4.2
  have p3 := w_is ((x : Int) + 1) z hz q5.1 q5.2
  have p4 := w_is (rch e la lb n k + 1) _ rfl q6.1 q6.2
  have p5 := w_is (rch e la lb n (k + 1) + 1) _ rfl q7.1 q7.2
  have p6 := w_is ((lb : Int) - k) _ rfl q8.1 q8.2
  exact ⟨hin, q0, ⟨hka, hkb⟩, x, y, z, i0, _, _, _, ⟨hx, q1.1, q1.2.1, q1.2.2⟩, ⟨q2.1, q2.2, hzN⟩, ⟨rfl, rfl, rfl⟩, hst, ⟨j0, hj0, hi0, hjb⟩, htg, ⟨p1.1, p2.1, p3.1, p4.1, p5.1, p6.1⟩, ⟨p1.2, p2.2, p3.2, p4.2, p5.2, p6.2⟩⟩
theorem inner_facts (la lb i j g : Nat) (k : Int) (ha : la ≤ 1000) (hb : lb ≤ 1000) (hig : i + g = la) (hij : (j : Int) = (i : Int) + k) (hjb : j ≤ lb) :
    (i ≤ la ∧ ((i : Int) + k).toNat = j) ∧ (wrap64 ((i : Int) + k) = (j : Int) ∧ IntKind.i64.wrap ((i : Int) + k) = (j : Int)) ∧ (wrap64 ((i : Int) + 1) = ((i + 1 : Nat) : Int) ∧ IntKind.i64.wrap ((i : Int) + 1) = ((i + 1 : Nat) : Int)) := by
  have h1 : -1000000 ≤ (i : Int) + k ∧ (i : Int) + k ≤ 1000000 := by omega
  have h2 : i ≤ 1000 := by omega
  exact ⟨⟨by omega, by omega⟩, w_is _ _ hij h1.1 h1.2, w_succ i h2, i_succ i h2⟩
theorem store_facts (M N x : Nat) (k : Int) (hM : M ≤ 1000) (hx : (x : Int) = (M : Int) + 1 + k) (hk : -1000 ≤ k ∧ k ≤ 1000) (hN : x < N) :
    ((x : Int) < (N : Int)) ∧ (wrap64 ((M : Int) + 1 + k) = (x : Int) ∧ IntKind.i64.wrap ((M : Int) + 1 + k) = (x : Int)) ∧ (wrap64 (k + 1) = k + 1 ∧ IntKind.i64.wrap (k + 1) = k + 1) := by
  have h1 : -1000000 ≤ (M : Int) + 1 + k ∧ (M : Int) + 1 + k ≤ 1000000 := by omega
  have h2 : -1000000 ≤ k + 1 ∧ k + 1 ≤ 1000000 := by omega
  exact ⟨by omega, w_is _ _ hx h1.1 h1.2, w_is _ _ rfl h2.1 h2.2⟩
theorem ghost_down {i g c : Nat} (h : i + (g + 1) = c) : i + 1 + g = c := by omega
theorem j_succ {i j : Nat} {k : Int} (h : (j : Int) = (i : Int) + k) : ((j + 1 : Nat) : Int) = ((i + 1 : Nat) : Int) + k := by omega
theorem next_lt {p x : Nat} {M : Nat} {k : Int} (hx : (x : Int) = (M : Int) + 1 + k) (h : p ≠ x) (h2 : (p : Int) - ((M : Int) + 1) < k + 1) : (p : Int) - ((M : Int) + 1) < k := by omega
theorem next_eq {p x : Nat} {M : Nat} {k : Int} (hx : (x : Int) = (M : Int) + 1 + k) (h : p = x) : (p : Int) - ((M : Int) + 1) = k := by omega
theorem lt_succ_ne {q k : Int} (h : q < k + 1) (hne : q ≠ k) : q < k := by omega
theorem letters_at {w : World} {A : Option Addr} {c : Nat} {x : List UInt8} {i : Nat} (h : Sl eB w.heap.size w (.slice A x.length c) x) (hi : i < x.length) : ∃ bk off, A = some ⟨bk, off, none⟩ ∧ w.cell? ⟨bk, off + i, none⟩ = some (eB x[i]) := by
 obtain ⟨A', c', e, _, hcs⟩ := h
 injection e with e1 e2 e3
 subst e1 e3
 obtain ⟨bk, off, rfl, _, hcell⟩ := hcs (by omega)
 exact ⟨bk, off, rfl, hcell i _ (List.getElem?_eq_getElem hi)⟩
variable (a b : List UInt8) (t : Int → Int → Bool)
def hitF (n : Nat) (k : Int) : Bool := t (rch (sameAt a b) a.length b.length (n + 1) k) (rch (sameAt a b) a.length b.length (n + 1) k + k)
set_option maxRecDepth 100000 in
set_option maxHeartbeats 4000000 in
theorem fewest_any (ha : a.length ≤ 1000) (hb : b.length ≤ 1000) (A1 : Option Addr) (c1 : Nat) (A2 : Option Addr) (c2 : Nat) (most : Int) (M : Nat) (hM : min most (max (a.length : Int) b.length) = M) (f : Nat) (lb : Array Value) (w : World)
    (hSa : Sl eB w.heap.size w (.slice A1 a.length c1) a) (hSb : Sl eB w.heap.size w (.slice A2 b.length c2) b)
    (hent : ∀ args w, (callFunc f args).run Tryd.prog w = .ok (.enter f args) w)
    (hthere : ∀ (i j : Int) w', Below w.heap.size w w' → Calls Tryd.prog f (#[.int .i64 i, .int .i64 j] ++ lb) w' fun e w'' => e = .returned (.bool (t i j)) ∧ w' = w'') :
    Calls Tryd.prog 55 #[.slice A1 a.length c1, .slice A2 b.length c2, .int .i64 most, .func (.func f) #[] lb] w fun e w' => Below w.heap.size w w' ∧
      ((∃ n, n ≤ M ∧ e = .returned (.tuple #[.int .i64 (n : Nat), .bool true]) ∧ (∃ k, inR a.length b.length n k ∧ hitF a b t n k = true) ∧ ∀ m, m < n → ∀ k, inR a.length b.length m k → hitF a b t m k = false) ∨
       (e = .returned (.tuple #[.int .i64 0, .bool false]) ∧ ∀ m, m ≤ M → ∀ k, inR a.length b.length m k → hitF a b t m k = false)) := by
 obtain ⟨N, hN⟩ : ∃ N, N = 2 * (M + 1) + 1 := ⟨_, rfl⟩
 have hun := fun w => unreached_any N (by omega) (by omega) w
 have d1 : decide (most < 0) = false := decide_eq_false (by omega)
 have d1' : ¬ most < 0 := by omega
 have hM1 : wrap64 ((M : Int) + 1) = (M : Int) + 1 := wz _ (by omega) (by omega)
 have hM1' : IntKind.i64.wrap ((M : Int) + 1) = (M : Int) + 1 := iz _ (by omega) (by omega)
 have hM2 : wrap64 (2 * ((M : Int) + 1)) = 2 * ((M : Int) + 1) := wz _ (by omega) (by omega)
 have hM3 : wrap64 (2 * ((M : Int) + 1) + 1) = (N : Int) := by rw [wz _ (by omega) (by omega)]; omega
 have hM2' : IntKind.i64.wrap (2 * ((M : Int) + 1)) = 2 * ((M : Int) + 1) := iz _ (by omega) (by omega)
 have hM3' : IntKind.i64.wrap (2 * ((M : Int) + 1) + 1) = (N : Int) := by rw [iz _ (by omega) (by omega)]; omega
 have HM9 := Lib.hid (show M ≤ 1000 by omega)
 have HM := Lib.hid hM
 have HN := Lib.hid hN
 have Ha := Lib.hid ha
 have Hb := Lib.hid hb
 clear hN
 go_enter Tryd.func55, Tryd.ntmps55
 go_wp2_with fail
 go_step3
 go_wp2_with (first | (refine wpList_max_v rfl _ _ _ rfl _ _ rfl rfl _ rfl ?_) | (refine wpList_min_v rfl _ _ _ rfl _ _ rfl rfl _ HM.out ?_))
 go_at_call 62
 refine (hun _).mono ?_
 rintro e w1 ⟨g1, rfl, hg1, hl1, hr1, hB1⟩
 go_wp2_with fail
 go_at_call 62
 refine (hun _).mono ?_
 rintro e w2 ⟨g2, rfl, hg2, hl2, hr2, hB2⟩
 have hB := below_trans hB1 hB2
 have hB0 := hB1
 have hr1 := hr1.below hB2 hl1
 have hne : g1 ≠ g2 := by omega
 have z1 := hr1.cell (M + 1)
 have f1 := hr1.frozen (M + 1)
 rw [cellsI_get _ _ _ (by have := HN.out; omega)] at z1
 have hr1 := hr1.set (M + 1) (eI (-1))
 have hr2 := hr2.other g1 (M + 1) (eI (-1)) (fun e => hne e.symm)
 have hB := below_set1 hB hg1 (M + 1) (eI (-1))
 have i1 : (0 : Int) ≤ (M : Int) + 1 := by omega
 have i2 : (M : Int) + 1 < (N : Int) := by have := HN.out; omega
 have i3 : ((M : Int) + 1).toNat = M + 1 := by omega
 clear hB1 hB2 hl1 hl2 hun
 have hg2' : w.heap.size ≤ g2 := by have := hB0.size; omega
 have hr1 : Rowed (w2.setCell ⟨g1, M + 1, none⟩ (eI (-1))) g1 3 (cellsI (fun p => rch (sameAt a b) a.length b.length 0 ((p : Int) - ((M : Int) + 1))) N) := by
  rw [cellsI_set] at hr1
  rw [cellsI_congr _ (fun k => if k = M + 1 then -1 else -2000) N (fun j _ => by
   rw [rch_zero]
   by_cases h : j = M + 1
   · rw [if_pos h, if_pos (by omega)]
   · rw [if_neg h, if_neg (by omega)])]
  exact hr1
 go_wp2_with fail
 go_step3
 have HE := Lib.hid hent
 have HT := Lib.hid hthere
 have HSa := Lib.hid hSa
 have HSb := Lib.hid hSb
 clear hent hthere hSa hSb ha hb hM z1 f1 i1 i2 i3 hg2 hB0 hM1 hM1' hM2 hM2' hM3 hM3'
 generalize w2.setCell ⟨g1, M + 1, none⟩ (eI (-1)) = w3 at *
 go_wp2_with fail
 go_loopg [8, 9, 11, 12] (M + 1) (fun g s8 s9 s11 s12 wx => ∃ (n ga gb : Nat) (fn : Nat → Int), n + g = M + 1 ∧ s8 = .int .i64 n ∧ s9 = .bool false ∧ s11 = .slice (some ⟨ga, 0, none⟩) N N ∧ s12 = .slice (some ⟨gb, 0, none⟩) N N ∧ ga ≠ gb ∧ w.heap.size ≤ ga ∧ w.heap.size ≤ gb ∧
   Rowed wx ga 3 (cellsI (fun p => rch (sameAt a b) a.length b.length n ((p : Int) - ((M : Int) + 1))) N) ∧ Rowed wx gb 3 (cellsI fn N) ∧ Hid (∀ p : Nat, p < N → ¬ inR a.length b.length n ((p : Int) - ((M : Int) + 1)) → fn p = -2000) ∧
   Below w.heap.size w wx ∧ Hid (∀ m, m < n → ∀ k, inR a.length b.length m k → hitF a b t m k = false))
 case atStart => exact ⟨0, g1, g2, fun _ => -2000, by omega, rfl, rfl, rfl, rfl, hne, hg1, hg2', hr1, hr2, Lib.hid (fun _ _ _ => rfl), hB, Lib.hid (fun m hm => absurd hm (by omega))⟩
 case round =>
  obtain ⟨n, ga, gb, fn, hng, rfl, rfl, rfl, rfl, hab, hga, hgb, hra, hrb, Hfn, hBx, Hno⟩ := hrel
  cases gk with
  | zero =>
    have hkd : decide ((n : Int) ≤ (M : Int)) = false := decide_eq_false (by omega)
    have Hn := Lib.hid (show n = M + 1 by omega)
    have hkn : ¬ n ≤ M := by omega
    clear hng
    go_wp2_with fail
    try rw [Exit.noGoto_ret]
    go_ret2
    exact ⟨hBx, .inr ⟨rfl, fun m hm => Hno.out m (by rw [Hn.out]; exact Nat.lt_succ_of_le hm)⟩⟩
  | succ g =>
    have hkd : decide ((n : Int) ≤ (M : Int)) = true := decide_eq_true (by omega)
    have hn9 : n ≤ 1000 := by have := HM9.out; omega
    have Hn := Lib.hid (show n ≤ M by omega)
    have hkn : n ≤ M := Hn.out
    obtain ⟨ng1, ng1'⟩ := w_is (-(n : Int)) _ rfl (by omega) (by omega)
    obtain ⟨ng2, ng2'⟩ := w_is (-(a.length : Int)) _ rfl (by have := Ha.out; omega) (by omega)
    have Hng := Lib.hid hng
    clear hng hn9 hr1 hr2 hB hg1 hg2' hne
    obtain ⟨k0, hk0⟩ : ∃ k0 : Int, max (-(n : Int)) (-(a.length : Int)) = k0 := ⟨_, rfl⟩
    obtain ⟨kx, hkx⟩ : ∃ kx : Int, min (n : Int) (b.length : Int) = kx := ⟨_, rfl⟩
    have Hk0 := Lib.hid hk0
    have Hkx := Lib.hid hkx
    clear hk0 hkx
    go_wp2_with (first | (refine wpList_max_v rfl _ _ _ rfl _ _ rfl rfl _ Hk0.out ?_))
    clear ng1 ng1' ng2 ng2'
    go_loopg [9, 13] ((kx + 1 - k0).toNat) (fun g s9 s13 wx => ∃ (k : Int) (fn : Nat → Int), k + g = kx + 1 ∧ k0 ≤ k ∧ s13 = .int .i64 k ∧ s9 = .bool false ∧
      Rowed wx ga 3 (cellsI (fun p => rch (sameAt a b) a.length b.length n ((p : Int) - ((M : Int) + 1))) N) ∧ Rowed wx gb 3 (cellsI fn N) ∧
      Hid (∀ p : Nat, p < N → (¬ inR a.length b.length n ((p : Int) - ((M : Int) + 1)) ∨ (p : Int) - ((M : Int) + 1) < k) → fn p = rch (sameAt a b) a.length b.length (n + 1) ((p : Int) - ((M : Int) + 1))) ∧
      Below w.heap.size w wx ∧ Hid (∀ k', inR a.length b.length n k' → k' < k → hitF a b t n k' = false))
    case atStart =>
     refine ⟨k0, fn, ?_, Int.le_refl _, rfl, rfl, hra, hrb, Lib.hid (fun p hp h => ?_), hBx, Lib.hid (fun k' h1 h2 => ?_)⟩
     · have := Hk0.out; have := Hkx.out; omega
     · have hno : ¬ inR a.length b.length n ((p : Int) - ((M : Int) + 1)) := by
         rcases h with h | h
         · exact h
         · intro h3
           obtain ⟨q1, q2, q3, q4⟩ := h3
           have := Hk0.out
           omega
       rw [rch_out _ _ _ _ _ hno]
       exact Hfn.out p hp hno
     · obtain ⟨q1, q2, q3, q4⟩ := h1
       have := Hk0.out
       omega
    case round =>
     obtain ⟨k, fn, hkg, hk0, rfl, rfl, hra, hrb, Hfn, hBx, Hno2⟩ := hrel
     cases gk with
     | zero =>
       have hkz : k = kx + 1 := by omega
       have hkd : decide (k ≤ kx) = false := decide_eq_false (by omega)
       have hn9 : n ≤ 1000 := Nat.le_trans Hn.out HM9.out
       have hn1 := w_succ n hn9
       have hn1' := i_succ n hn9
       have Hk := Lib.hid hkz
       have Hlt := Lib.hid (fun q hq => loop_done a.length b.length n k kx Hkx.out hkz q hq)
       clear hkg hk0 hkz hn9
       go_wp2_with (first | (refine wpList_min_v rfl _ _ _ rfl _ _ rfl rfl _ Hkx.out ?_))
       go_roundg g
       case rel =>
        refine ⟨n + 1, gb, ga, fun p => rch (sameAt a b) a.length b.length n ((p : Int) - ((M : Int) + 1)), ghost_next Hng.out, by go_num, rfl, rfl, rfl, fun e => hab e.symm, hgb, hga, ?_, hra, Lib.hid (fun p _ h => old_out _ _ _ _ _ h), hBx, Lib.hid (fun m hm k' hk' => ?_)⟩
        · rw [cellsI_congr fn (fun p => rch (sameAt a b) a.length b.length (n + 1) ((p : Int) - ((M : Int) + 1))) N (fun j hj => Hfn.out j hj (by
            by_cases h : inR a.length b.length n ((j : Int) - ((M : Int) + 1))
            · exact .inr (Hlt.out _ h)
            · exact .inl h))] at hrb
          exact hrb
        · by_cases e : m = n
          · subst e
            exact Hno2.out k' hk' (Hlt.out k' hk')
          · exact Hno.out m (Nat.lt_of_le_of_ne (Nat.le_of_lt_succ hm) e) k' hk'
       case measure => exact Nat.lt_succ_self _
     | succ g2 =>
       obtain ⟨hin, hkk, hk9, x, y, z, i0, r0, r1, r2, ⟨hx, x1, x2, x3⟩, ⟨l1, l2, l3⟩, ⟨e0, e1, e2⟩, hst, hi0, htg, hw1, hw2⟩ := round_facts (sameAt a b) a.length b.length M N n k k0 kx g2 HM9.out Ha.out Hb.out HN.out Hn.out Hk0.out Hkx.out hkg hk0
       have hkd : decide (k ≤ kx) = true := decide_eq_true hkk
       have cx := cellsI_at hra x l1 x1
       have cy := cellsI_at hra y l2 x2
       have cz := cellsI_at hra z l3 x3
       rw [e0] at cx
       rw [e1] at cy
       rw [e2] at cz
       have Hx := Lib.hid (And.intro hx (And.intro x1 l1))
       have lx : (x : Int) < (N : Int) := Int.ofNat_lt.2 l1
       have ly : (y : Int) < (N : Int) := Int.ofNat_lt.2 l2
       have lz : (z : Int) < (N : Int) := Int.ofNat_lt.2 l3
       obtain ⟨wx1, wy1, wz1, w01, w21, wk1⟩ := hw1
       obtain ⟨wx2, wy2, wz2, w02, w22, wk2⟩ := hw2
       have Hin := Lib.hid hin
       have Htg := Lib.hid htg
       have H9 := Lib.hid hk9
       obtain ⟨mx, hmx⟩ : ∃ mx, max (max (r0 + 1) r1) (r2 + 1) = mx := ⟨_, rfl⟩
       rw [hmx] at hst
       have Hmx := Lib.hid hmx
       have Hst := Lib.hid hst
       have Hi0 := Lib.hid hi0
       have Hk := Lib.hid (And.intro hkg hk0)
       clear hmx hin hkk hk9 hx x1 x2 x3 l1 l2 l3 e0 e1 e2 hst hi0 htg hkg hk0
       go_wp2_with (first | (refine wpList_min_v rfl _ _ _ rfl _ _ rfl rfl _ Hkx.out ?_))
       go_quiet (fail)
       go_wp2_with (first | (refine wpList_max3_v rfl _ _ _ _ rfl _ _ _ rfl rfl rfl _ Hmx.out ?_) | (refine wpList_min3_v rfl _ _ _ _ rfl _ _ _ rfl rfl rfl _ Hst.out ?_))
       obtain ⟨j0, hj0, hi0, hj0b⟩ := Hi0.out
       have HraX := Lib.hid hra
       have HrbX := Lib.hid hrb
       have HBX := Lib.hid hBx
       clear wx1 wy1 wz1 w01 w21 wk1 wx2 wy2 wz2 w02 w22 wk2 cx cy cz lx ly lz hra hrb hBx
       go_loopg [17] (a.length - i0) (fun g s17 wx => ∃ (i j fu : Nat), i + g = a.length ∧ (j : Int) = (i : Int) + k ∧ j ≤ b.length ∧ a.length ≤ i + fu ∧ s17 = .int .i64 i ∧ extG (sameAt a b) a.length b.length fu k i = rch (sameAt a b) a.length b.length (n + 1) k ∧
         Rowed wx ga 3 (cellsI (fun p => rch (sameAt a b) a.length b.length n ((p : Int) - ((M : Int) + 1))) N) ∧ Rowed wx gb 3 (cellsI fn N) ∧ Below w.heap.size w wx)
       case atStart => exact ⟨i0, j0, a.length, by omega, hj0, hj0b, by omega, rfl, Htg.out.symm, HraX.out, HrbX.out, below_trans HBX.out ⟨rfl, rfl, rfl, Nat.le_refl _, fun _ _ => rfl⟩⟩
       case round =>
        obtain ⟨i, j, fu, hig, hij, hjb, hfu, rfl, hext, hra, hrb, hBx⟩ := hrel
        obtain ⟨⟨hia, htn⟩, ⟨wij1, wij2⟩, wi1, wi2⟩ := inner_facts a.length b.length i j gk k Ha.out Hb.out hig hij hjb
        have Hij := Lib.hid hij.symm
        have Hig := Lib.hid hig
        have Hjb := Lib.hid hjb
        by_cases hA : i < a.length
        · have dA : decide ((i : Int) < (a.length : Int)) = true := decide_eq_true (Int.ofNat_lt.2 hA)
          have iA : (i : Int) < (a.length : Int) := Int.ofNat_lt.2 hA
          by_cases hB2 : j < b.length
          · have dB : decide ((j : Int) < (b.length : Int)) = true := decide_eq_true (Int.ofNat_lt.2 hB2)
            have iB : (j : Int) < (b.length : Int) := Int.ofNat_lt.2 hB2
            obtain ⟨ba, oa, rfl, la⟩ := letters_at (HSa.out.next hBx) hA
            obtain ⟨bb, ob, rfl, lb2⟩ := letters_at (HSb.out.next hBx) hB2
            have hsa : sameAt a b i j = decide (a[i] = b[j]) := by
             unfold sameAt
             rw [List.getElem?_eq_getElem hA, List.getElem?_eq_getElem hB2]
             simp
            by_cases heq : a[i] = b[j]
            · have hq : (((a[i]).toNat : Int) == ((b[j]).toNat : Int)) = true := by rw [heq]; simp
              obtain ⟨f2, hf2, hext2⟩ := ext_on (sameAt a b) a.length b.length fu k i hfu iA (by rw [Hij.out]; exact iB) (by rw [htn, hsa]; exact decide_eq_true heq)
              have Hext := Lib.hid (hext2.symm.trans hext)
              have Hf2 := Lib.hid hf2
              have Hlt := Lib.hid (And.intro hA hB2)
              clear hext hext2 hf2 hfu hsa heq hij hig hjb htn hia
              generalize a[i] = ca at *
              generalize b[j] = cb at *
              have hBd : ∀ nd, Below w.heap.size w (wr.drewN nd) := fun nd => below_trans hBx ⟨rfl, rfl, rfl, Nat.le_refl _, fun _ _ => rfl⟩
              cases gk with
              | zero => exact absurd Hig.out (by have := Hlt.out.1; exact fun e => Nat.lt_irrefl _ (e ▸ this))
              | succ g3 =>
                go_wp2_with fail
                go_quiet (fail)
                have Hq := Lib.hid (And.intro (hBd nq) (And.intro (show Rowed (wr.drewN nq) ga 3 _ from hra) (show Rowed (wr.drewN nq) gb 3 _ from hrb)))
                clear hBd hra hrb hBx
                go_wp2_with fail
                go_roundg g3
                case rel => exact ⟨i + 1, j + 1, f2, ghost_down Hig.out, j_succ Hij.out.symm, Hlt.out.2, Hf2.out, by go_num, Hext.out, Hq.out.2.1, Hq.out.2.2, Hq.out.1⟩
                case measure => exact Nat.lt_succ_self _
            · have hq : (((a[i]).toNat : Int) == ((b[j]).toNat : Int)) = false := by
                rw [beq_eq_false_iff_ne]
                intro h
                exact heq (UInt8.toNat_inj.1 (Int.ofNat_inj.1 h))
              have hno : ¬ ((i : Int) < a.length ∧ (i : Int) + k < b.length ∧ sameAt a b i ((i : Int) + k).toNat = true) := fun h => by
               rw [htn, hsa] at h
               exact heq (of_decide_eq_true h.2.2)
              clear hsa heq hij hig hjb htn hia
              generalize a[i] = ca at *
              generalize b[j] = cb at *
              have Hstop := Lib.hid (hext.symm.trans (ext_stop (sameAt a b) a.length b.length fu k i hfu hno))
              have Hhit := Lib.hid (show hitF a b t n k = t (i : Int) (j : Int) by unfold hitF; rw [Hstop.out, Hij.out])
              have hBd : ∀ nd, Below w.heap.size w (wr.drewN nd) := fun nd => below_trans hBx ⟨rfl, rfl, rfl, Nat.le_refl _, fun _ _ => rfl⟩
              have hth := fun nd => HT.out (i : Int) (j : Int) (wr.drewN nd) (hBd nd)
              have hent := HE.out
              clear hext hno hfu
              go_wp2_with fail
              go_quiet (fail)
              go_wp2_with fail
              refine (hth nq).mono ?_
              rintro e w7 ⟨rfl, rfl⟩
              cases htt : t (i : Int) (j : Int) with
              | true =>
                rw [htt] at Hhit
                have Hq := Lib.hid (hBd nq)
                clear hth hent hBd htt
                go_wp2_with fail
                try rw [Exit.noGoto_ret]
                go_ret2
                exact ⟨Hq.out, .inl ⟨n, Hn.out, rfl, ⟨k, Hin.out, Hhit.out⟩, Hno.out⟩⟩
              | false =>
                rw [htt] at Hhit
                obtain ⟨lx, ⟨wx1, wx2⟩, wk1, wk2⟩ := store_facts M N x k HM9.out Hx.out.1 H9.out Hx.out.2.2
                have cx := hrb.cell x
                rw [cellsI_get _ _ _ Hx.out.2.2] at cx
                have fx := hrb.frozen x
                have Hq := Lib.hid (And.intro (hBd nq) (And.intro (show Rowed (wr.drewN nq) ga 3 _ from hra) (show Rowed (wr.drewN nq) gb 3 _ from hrb)))
                clear hth hent hBd htt hra hrb hBx
                go_wp2_with fail
                go_roundg g2
                case rel =>
                 have h3 := Hq.out.2.2.set x (eI (i : Int))
                 rw [cellsI_set] at h3
                 refine ⟨k + 1, fun p => if p = x then (i : Int) else fn p, ghost_nextI Hk.out.1, Int.le_trans Hk.out.2 (Int.le_add_one (Int.le_refl _)), rfl, rfl, Hq.out.2.1.other gb x (eI (i : Int)) hab, h3, Lib.hid (fun p hp hc => ?_), below_set1 Hq.out.1 hgb x (eI (i : Int)), Lib.hid (fun k' h1 h2 => ?_)⟩
                 · show (if p = x then (i : Int) else fn p) = _
                   by_cases hpx : p = x
                   · rw [if_pos hpx, next_eq Hx.out.1 hpx]
                     exact Hstop.out.symm
                   · rw [if_neg hpx]
                     refine Hfn.out p hp ?_
                     rcases hc with hc | hc
                     · exact .inl hc
                     · exact .inr (next_lt Hx.out.1 hpx hc)
                 · by_cases hkk : k' = k
                   · rw [hkk]; exact Hhit.out
                   · exact Hno2.out k' h1 (lt_succ_ne h2 hkk)
                case measure => exact Nat.lt_succ_self _
          · have dB : decide ((j : Int) < (b.length : Int)) = false := decide_eq_false fun h => hB2 (Int.ofNat_lt.1 h)
            have hno : ¬ ((i : Int) < a.length ∧ (i : Int) + k < b.length ∧ sameAt a b i ((i : Int) + k).toNat = true) := fun h => hB2 (Int.ofNat_lt.1 (by rw [← Hij.out]; exact h.2.1))
            clear hij hig hjb htn hia
            have Hstop := Lib.hid (hext.symm.trans (ext_stop (sameAt a b) a.length b.length fu k i hfu hno))
            have Hhit := Lib.hid (show hitF a b t n k = t (i : Int) (j : Int) by unfold hitF; rw [Hstop.out, Hij.out])
            have hBd : ∀ nd, Below w.heap.size w (wr.drewN nd) := fun nd => below_trans hBx ⟨rfl, rfl, rfl, Nat.le_refl _, fun _ _ => rfl⟩
            have hth := fun nd => HT.out (i : Int) (j : Int) (wr.drewN nd) (hBd nd)
            have hent := HE.out
            clear hext hno hfu
            go_wp2_with fail
            go_quiet (fail)
            go_wp2_with fail
            refine (hth nq).mono ?_
            rintro e w7 ⟨rfl, rfl⟩
            cases htt : t (i : Int) (j : Int) with
            | true =>
              rw [htt] at Hhit
              have Hq := Lib.hid (hBd nq)
              clear hth hent hBd htt
              go_wp2_with fail
              try rw [Exit.noGoto_ret]
              go_ret2
              exact ⟨Hq.out, .inl ⟨n, Hn.out, rfl, ⟨k, Hin.out, Hhit.out⟩, Hno.out⟩⟩
            | false =>
              rw [htt] at Hhit
              obtain ⟨lx, ⟨wx1, wx2⟩, wk1, wk2⟩ := store_facts M N x k HM9.out Hx.out.1 H9.out Hx.out.2.2
              have cx := hrb.cell x
              rw [cellsI_get _ _ _ Hx.out.2.2] at cx
              have fx := hrb.frozen x
              have Hq := Lib.hid (And.intro (hBd nq) (And.intro (show Rowed (wr.drewN nq) ga 3 _ from hra) (show Rowed (wr.drewN nq) gb 3 _ from hrb)))
              clear hth hent hBd htt hra hrb hBx
              go_wp2_with fail
              go_roundg g2
              case rel =>
               have h3 := Hq.out.2.2.set x (eI (i : Int))
               rw [cellsI_set] at h3
               refine ⟨k + 1, fun p => if p = x then (i : Int) else fn p, ghost_nextI Hk.out.1, Int.le_trans Hk.out.2 (Int.le_add_one (Int.le_refl _)), rfl, rfl, Hq.out.2.1.other gb x (eI (i : Int)) hab, h3, Lib.hid (fun p hp hc => ?_), below_set1 Hq.out.1 hgb x (eI (i : Int)), Lib.hid (fun k' h1 h2 => ?_)⟩
               · show (if p = x then (i : Int) else fn p) = _
                 by_cases hpx : p = x
                 · rw [if_pos hpx, next_eq Hx.out.1 hpx]
                   exact Hstop.out.symm
                 · rw [if_neg hpx]
                   refine Hfn.out p hp ?_
                   rcases hc with hc | hc
                   · exact .inl hc
                   · exact .inr (next_lt Hx.out.1 hpx hc)
               · by_cases hkk : k' = k
                 · rw [hkk]; exact Hhit.out
                 · exact Hno2.out k' h1 (lt_succ_ne h2 hkk)
              case measure => exact Nat.lt_succ_self _
        · have dA : decide ((i : Int) < (a.length : Int)) = false := decide_eq_false fun h => hA (Int.ofNat_lt.1 h)
          have hno : ¬ ((i : Int) < a.length ∧ (i : Int) + k < b.length ∧ sameAt a b i ((i : Int) + k).toNat = true) := fun h => hA (Int.ofNat_lt.1 h.1)
          clear hij hig hjb htn hia
          have Hstop := Lib.hid (hext.symm.trans (ext_stop (sameAt a b) a.length b.length fu k i hfu hno))
          have Hhit := Lib.hid (show hitF a b t n k = t (i : Int) (j : Int) by unfold hitF; rw [Hstop.out, Hij.out])
          have hBd : ∀ nd, Below w.heap.size w (wr.drewN nd) := fun nd => below_trans hBx ⟨rfl, rfl, rfl, Nat.le_refl _, fun _ _ => rfl⟩
          have hth := fun nd => HT.out (i : Int) (j : Int) (wr.drewN nd) (hBd nd)
          have hent := HE.out
          clear hext hno hfu
          go_wp2_with fail
          go_quiet (fail)
          go_wp2_with fail
          refine (hth nq).mono ?_
          rintro e w7 ⟨rfl, rfl⟩
          cases htt : t (i : Int) (j : Int) with
          | true =>
            rw [htt] at Hhit
            have Hq := Lib.hid (hBd nq)
            clear hth hent hBd htt
            go_wp2_with fail
            try rw [Exit.noGoto_ret]
            go_ret2
            exact ⟨Hq.out, .inl ⟨n, Hn.out, rfl, ⟨k, Hin.out, Hhit.out⟩, Hno.out⟩⟩
          | false =>
            rw [htt] at Hhit
            obtain ⟨lx, ⟨wx1, wx2⟩, wk1, wk2⟩ := store_facts M N x k HM9.out Hx.out.1 H9.out Hx.out.2.2
            have cx := hrb.cell x
            rw [cellsI_get _ _ _ Hx.out.2.2] at cx
            have fx := hrb.frozen x
            have Hq := Lib.hid (And.intro (hBd nq) (And.intro (show Rowed (wr.drewN nq) ga 3 _ from hra) (show Rowed (wr.drewN nq) gb 3 _ from hrb)))
            clear hth hent hBd htt hra hrb hBx
            go_wp2_with fail
            go_roundg g2
            case rel =>
             have h3 := Hq.out.2.2.set x (eI (i : Int))
             rw [cellsI_set] at h3
             refine ⟨k + 1, fun p => if p = x then (i : Int) else fn p, ghost_nextI Hk.out.1, Int.le_trans Hk.out.2 (Int.le_add_one (Int.le_refl _)), rfl, rfl, Hq.out.2.1.other gb x (eI (i : Int)) hab, h3, Lib.hid (fun p hp hc => ?_), below_set1 Hq.out.1 hgb x (eI (i : Int)), Lib.hid (fun k' h1 h2 => ?_)⟩
             · show (if p = x then (i : Int) else fn p) = _
               by_cases hpx : p = x
               · rw [if_pos hpx, next_eq Hx.out.1 hpx]
                 exact Hstop.out.symm
               · rw [if_neg hpx]
                 refine Hfn.out p hp ?_
                 rcases hc with hc | hc
                 · exact .inl hc
                 · exact .inr (next_lt Hx.out.1 hpx hc)
             · by_cases hkk : k' = k
               · rw [hkk]; exact Hhit.out
               · exact Hno2.out k' h1 (lt_succ_ne h2 hkk)
            case measure => exact Nat.lt_succ_self _
end Go.Proofs.YtcngnjkpnmpcpaaDoor
