import Derived.Test.YtcngnjkpnmpcpaaDoorDTIZ
import Derived.Test.YtcngnjkpnmpcpaaDoorEdBZ
namespace Go.Proofs.YtcngnjkpnmpcpaaDoor
open Go.RowKit Go.Shelf
attribute [local go_sem] Oper.semAt_some run_store_func
theorem fewest_neg (A1 A2 : Option Addr) (n1 c1 n2 c2 : Nat) (most : Int) (h : most < 0) (v : Value) (w : World) :
    Calls Tryd.prog 55 #[.slice A1 n1 c1, .slice A2 n2 c2, .int .i64 most, v] w fun e w' => e = .returned (.tuple #[.int .i64 0, .bool false]) ∧ w = w' := by
  have d1 : decide (most < 0) = true := decide_eq_true h
  go_enter Tryd.func55, Tryd.ntmps55
  go_wp2_with fail
  go_step3
  go_wp2_with fail
  try rw [Exit.noGoto_ret]
  go_ret2
  exact ⟨rfl, rfl⟩
def cut (x : List UInt8) : List UInt8 := x.take 1000
theorem cut_len (x : List UInt8) : (cut x).length ≤ 1000 := by unfold cut; rw [List.length_take]; omega
theorem cut_same (x : List UInt8) (h : x.length ≤ 1000) : cut x = x := List.take_of_length_le h
theorem cut_take (x : List UInt8) : x.take (cut x).length = cut x := by
 unfold cut
 rw [List.length_take]
 by_cases h : 1000 ≤ x.length
 · rw [Nat.min_eq_left h]
 · rw [Nat.min_eq_right (by omega), List.take_length, List.take_of_length_le (by omega)]
theorem cut_sl {A : Option Addr} {c : Nat} {x : List UInt8} {w : World} (h : Sl eB w.heap.size w (.slice A x.length c) x) : Sl eB w.heap.size w (.slice A (cut x).length c) (cut x) := by
 have := h.upto (p := (cut x).length) (by unfold cut; rw [List.length_take]; omega)
 rwa [cut_take] at this
def wiN (a b : List UInt8) (most : Int) : Int := if (dist (cut a) (cut b) : Int) ≤ most then dist (cut a) (cut b) else 0
def wiB (a b : List UInt8) (most : Int) : Bool := decide ((dist (cut a) (cut b) : Int) ≤ most)
theorem all_there (x : List UInt8) (A : Option Addr) (c g g2 : Nat) (y : List UInt8) (A2 : Option Addr) (c2 : Nat) (i j : Int) (w : World) (h1 : w.cell? ⟨g, 0, none⟩ = some (.slice A x.length c)) (h2 : w.cell? ⟨g2, 0, none⟩ = some (.slice A2 y.length c2)) :
    Calls Tryd.prog 67 #[.int .i64 i, .int .i64 j, .pointer (some ⟨g, 0, none⟩), .pointer (some ⟨g2, 0, none⟩)] w fun e w' => e = .returned (.bool ((i == (x.length : Int)) && (j == (y.length : Int)))) ∧ w = w' := by
  cases hi : i == (x.length : Int) with
  | false =>
    go_enter Tryd.func67, Tryd.ntmps67
    go_wp2_with fail
    go_ret
    exact ⟨rfl, rfl⟩
  | true =>
    cases hj : j == (y.length : Int) with
    | false =>
      go_enter Tryd.func67, Tryd.ntmps67
      go_wp2_with fail
      go_ret
      exact ⟨rfl, rfl⟩
    | true =>
      go_enter Tryd.func67, Tryd.ntmps67
      go_wp2_with fail
      go_ret
      exact ⟨rfl, rfl⟩
theorem within_is (a b : List UInt8) (most : Int) (M : Nat) (hM : min most (max (a.length : Int) b.length) = M) (e : Ending)
    (h : (∃ n, n ≤ M ∧ e = .returned (.tuple #[.int .i64 (n : Nat), .bool true]) ∧ (∃ k, inR a.length b.length n k ∧ hitF a b (fun i j => (i == (a.length : Int)) && (j == (b.length : Int))) n k = true) ∧ ∀ m, m < n → ∀ k, inR a.length b.length m k → hitF a b (fun i j => (i == (a.length : Int)) && (j == (b.length : Int))) m k = false) ∨
       (e = .returned (.tuple #[.int .i64 0, .bool false]) ∧ ∀ m, m ≤ M → ∀ k, inR a.length b.length m k → hitF a b (fun i j => (i == (a.length : Int)) && (j == (b.length : Int))) m k = false)) :
    e = .returned (.tuple #[.int .i64 (if (dist a b : Int) ≤ most then dist a b else 0), .bool (decide ((dist a b : Int) ≤ most))]) := by
 have hit : ∀ n k, hitF a b (fun i j => (i == (a.length : Int)) && (j == (b.length : Int))) n k = true ↔ rch (sameAt a b) a.length b.length (n + 1) k = a.length ∧ rch (sameAt a b) a.length b.length (n + 1) k + k = b.length := by
  intro n k
  unfold hitF
  rw [Bool.and_eq_true, beq_iff_eq, beq_iff_eq]
 have all := fun n => reach_all (sameAt a b) a.length b.length n
 have hmost := dist_most a b
 rcases h with ⟨n, hn, rfl, ⟨k, hk, hh⟩, hno⟩ | ⟨rfl, hno⟩
 · have h1 : dist a b ≤ n := (all n).1 ⟨k, hk, (hit n k).1 hh⟩
   have h2 : n ≤ dist a b := by
    refine Decidable.byContradiction fun hlt => ?_
    obtain ⟨k2, q1, q2⟩ := (all (dist a b)).2 (Nat.le_refl _)
    have := hno (dist a b) (by omega) k2 q1
    rw [(hit _ _).2 q2] at this
    cases this
   obtain rfl : n = dist a b := by omega
   have h3 : (dist a b : Int) ≤ most := by omega
   rw [if_pos h3, decide_eq_true h3]
 · have h3 : ¬ (dist a b : Int) ≤ most := by
     intro h
     obtain ⟨k2, q1, q2⟩ := (all (dist a b)).2 (Nat.le_refl _)
     have := hno (dist a b) (by omega) k2 q1
     rw [(hit _ _).2 q2] at this
     cases this
   rw [if_neg h3, decide_eq_false h3]
set_option maxRecDepth 100000 in
set_option maxHeartbeats 1000000 in
theorem Within_any (va vb : Value) (a b : List UInt8) (most : Int) (w : World) (hSa : Sl eB w.heap.size w va a) (hSb : Sl eB w.heap.size w vb b) :
    Calls Tryd.prog 63 #[va, vb, .int .i64 most] w fun e w' => e = .returned (.tuple #[.int .i64 (wiN a b most), .bool (wiB a b most)]) ∧ Below w.heap.size w w' := by
  obtain ⟨A1, c1, rfl, hc1, -⟩ := id hSa
  obtain ⟨A2, c2, rfl, hc2, -⟩ := id hSb
  have hL1 := fun w => looked_any a A1 c1 hc1 w
  have hL2 := fun w => looked_any b A2 c2 hc2 w
  have hSca := cut_sl hSa
  have hScb := cut_sl hSb
  change ∀ w, Calls Tryd.prog 54 #[.slice A1 a.length c1] w fun e w' => e = .returned (.slice A1 (cut a).length c1) ∧ w = w' at hL1
  change ∀ w, Calls Tryd.prog 54 #[.slice A2 b.length c2] w fun e w' => e = .returned (.slice A2 (cut b).length c2) ∧ w = w' at hL2
  have hmf : ∀ (fn : Fn) (first cap : Array Value) (w : World), (Instr.makeFunc fn first cap).run Tryd.prog w = .ok (.func fn first cap) w := fun _ _ _ _ => rfl
  have hb1 := (Boxed.new w 39 (.slice A1 a.length c1)).alloc (.cells #[.slice A2 b.length c2] 39)
  have hb2 := Boxed.new (w.alloc (.cells #[.slice A1 a.length c1] 39)) 39 (.slice A2 b.length c2)
  have hA1 := below_trans (below_alloc w (.cells #[.slice A1 a.length c1] 39)) (below_alloc (w.alloc (.cells #[.slice A1 a.length c1] 39)) (.cells #[.slice A2 b.length c2] 39))
  rw [World.size_alloc] at hb2
  go_enter Tryd.func63, Tryd.ntmps63
  go_upto_region 1 with fail
  generalize (w.alloc (.cells #[.slice A1 a.length c1] 39)).alloc (.cells #[.slice A2 b.length c2] 39) = w0 at *
  have k1 : w0.drew.cell? ⟨w.heap.size, 0, none⟩ = some (.slice A1 a.length c1) := hb1.cell
  have k2 : w0.drew.cell? ⟨w.heap.size + 1, 0, none⟩ = some (.slice A2 b.length c2) := hb2.cell
  refine (wpIn_wide (n := 5)).1 ?_
  refine wpIn_region_det 4 [(8, .slice A1 a.length c1), (9, .slice A1 (cut a).length c1), (10, .slice A2 b.length c2), (11, .slice A2 (cut b).length c2)]
    (by kernel_rfl) (by decide) (by kernel_rfl) (by kernel_rfl) (by kernel_rfl) (by kernel_rfl) (by kernel_rfl) ?ok1 ?tail1
  case ok1 =>
   intro A' hA'
   simp only [putAll, Act.put, List.setIfInBounds_toArray, List.set_cons_zero, List.set_cons_succ] at hA'
   subst hA'
   refine ⟨?_, ?_, ?_, ?_, trivial⟩
   all_goals unfold DetIn
   all_goals go_simp
   · refine ⟨trivial, (callsIn_wide.2 (hL1 _)).mono ?_⟩
     rintro e w' ⟨rfl, rfl⟩
     exact ⟨rfl, rfl⟩
   · refine ⟨trivial, (callsIn_wide.2 (hL2 _)).mono ?_⟩
     rintro e w' ⟨rfl, rfl⟩
     exact ⟨rfl, rfl⟩
  case tail1 =>
   intro A' hA'
   simp only [putAll, Act.put, List.setIfInBounds_toArray, List.set_cons_zero, List.set_cons_succ] at hA'
   subst hA'
   simp only [List.drop_succ_cons, List.drop_zero]
   have h1 : Boxed w0.drew w.heap.size 39 (.slice A1 a.length c1) := hb1
   have h2 : Boxed w0.drew (w.heap.size + 1) 39 (.slice A2 b.length c2) := hb2
   have f1 := h1.frozen
   have h3 := h1.set (.slice A1 (cut a).length c1)
   have h4 := h2.other (B' := w.heap.size) (by omega) (.slice A1 (cut a).length c1)
   have f2 := h4.frozen
   have k3 := h4.cell
   have h5 := h4.set (.slice A2 (cut b).length c2)
   have h6 := h3.other (B' := w.heap.size + 1) (by omega) (.slice A2 (cut b).length c2)
   have hB := below_set1 (below_set1 (below_trans hA1 ⟨rfl, rfl, rfl, Nat.le_refl _, fun _ _ => rfl⟩) (Nat.le_refl _) 0 (.slice A1 (cut a).length c1)) (show w.heap.size ≤ w.heap.size + 1 by omega) 0 (.slice A2 (cut b).length c2)
   have g1 := hb1.cell
   have g2 := hb1.frozen
   have g3 := hb2.cell
   have g4 := hb2.frozen
   gi_wp2_with fail
   have h5 : Boxed ((w0.setCell ⟨w.heap.size, 0, none⟩ (.slice A1 (cut a).length c1)).setCell ⟨w.heap.size + 1, 0, none⟩ (.slice A2 (cut b).length c2)).drew (w.heap.size + 1) 39 (.slice A2 (cut b).length c2) := h5
   have h6 : Boxed ((w0.setCell ⟨w.heap.size, 0, none⟩ (.slice A1 (cut a).length c1)).setCell ⟨w.heap.size + 1, 0, none⟩ (.slice A2 (cut b).length c2)).drew w.heap.size 39 (.slice A1 (cut a).length c1) := h6
   have hB : Below w.heap.size w ((w0.setCell ⟨w.heap.size, 0, none⟩ (.slice A1 (cut a).length c1)).setCell ⟨w.heap.size + 1, 0, none⟩ (.slice A2 (cut b).length c2)).drew := below_trans hB ⟨rfl, rfl, rfl, Nat.le_refl _, fun _ _ => rfl⟩
   clear h1 h2 h3 h4 f1 f2 k1 k2 k3 g1 g2 g3 g4 hb1 hb2 hA1
   generalize ((w0.setCell ⟨w.heap.size, 0, none⟩ (.slice A1 (cut a).length c1)).setCell ⟨w.heap.size + 1, 0, none⟩ (.slice A2 (cut b).length c2)).drew = w2 at *
   have q1 := h6.cell
   have q2 := h5.cell
   by_cases hm : most < 0
   · have hw1 : wiN a b most = 0 := if_neg (by omega)
     have hw2 : wiB a b most = false := decide_eq_false (by omega)
     go_wp2_with fail
     go_at_call 55
     refine (fewest_neg A1 A2 _ c1 _ c2 most hm _ _).mono ?_
     rintro e w3 ⟨rfl, rfl⟩
     go_wp2_with fail
     go_ret2
     exact ⟨by rw [hw1, hw2]; rfl, hB⟩
   · obtain ⟨M, hM⟩ : ∃ M : Nat, min most (max ((cut a).length : Int) (cut b).length) = M := ⟨(min most (max ((cut a).length : Int) (cut b).length)).toNat, by omega⟩
     have hF := fewest_any (cut a) (cut b) (fun i j => (i == ((cut a).length : Int)) && (j == ((cut b).length : Int))) (cut_len a) (cut_len b) A1 c1 A2 c2 most M hM 67 #[.pointer (some ⟨w.heap.size, 0, none⟩), .pointer (some ⟨w.heap.size + 1, 0, none⟩)] w2
       (hSca.next hB) (hScb.next hB) (enters_of Tryd.func67 (by kernel_rfl) rfl) (fun i j w' hw => all_there (cut a) A1 c1 _ _ (cut b) A2 c2 i j w' ((hw.cell (p := ⟨w.heap.size, 0, none⟩) h6.lt).trans q1) ((hw.cell (p := ⟨w.heap.size + 1, 0, none⟩) h5.lt).trans q2))
     have HMm := Lib.hid hM
     clear hM
     go_wp2_with fail
     go_at_call 55
     refine hF.mono ?_
     rintro e w3 ⟨hB3, he⟩
     have he := within_is (cut a) (cut b) most M HMm.out e he
     change e = .returned (.tuple #[.int .i64 (wiN a b most), .bool (wiB a b most)]) at he
     subst he
     have hBB := below_trans hB hB3
     clear hF
     go_wp2_with fail
     go_ret2
     exact ⟨rfl, hBB⟩
theorem dist_cut (a b : List UInt8) : dist (cut a) (cut b) ≤ 1000 := by
 have h1 := dist_most (cut a) (cut b)
 have h2 := cut_len a
 have h3 := cut_len b
 omega
theorem wiN_1000 (a b : List UInt8) : wiN a b 1000 = dist (cut a) (cut b) := if_pos (by have := dist_cut a b; omega)
set_option maxRecDepth 100000 in
theorem Distance_any (va vb : Value) (a b : List UInt8) (w : World) (hSa : Sl eB w.heap.size w va a) (hSb : Sl eB w.heap.size w vb b) :
    Calls Tryd.prog 57 #[va, vb] w fun e w' => e = .returned (.int .i64 (dist (cut a) (cut b) : Nat)) ∧ Below w.heap.size w w' := by
  have hW := Within_any va vb a b 1000 w hSa hSb
  rw [wiN_1000] at hW
  go_enter Tryd.func57, Tryd.ntmps57
  go_wp2_with fail
  go_at_call 63
  refine hW.mono ?_
  rintro e w1 ⟨rfl, hB⟩
  go_wp2_with fail
  go_ret
  exact ⟨rfl, hB⟩
def IsPre (x y : List UInt8) (n : Nat) : Prop := (∃ j, j ≤ y.length ∧ dist x (y.take j) = n) ∧ ∀ j, j ≤ y.length → n ≤ dist x (y.take j)
theorem pre_there (x : List UInt8) (A : Option Addr) (c g : Nat) (i j : Int) (w : World) (h1 : w.cell? ⟨g, 0, none⟩ = some (.slice A x.length c)) :
    Calls Tryd.prog 56 #[.int .i64 i, .int .i64 j, .pointer (some ⟨g, 0, none⟩)] w fun e w' => e = .returned (.bool (i == (x.length : Int))) ∧ w = w' := by
  go_enter Tryd.func56, Tryd.ntmps56
  go_wp2_with fail
  go_ret
  exact ⟨rfl, rfl⟩
theorem prefix_is (a b : List UInt8) (e : Ending)
    (h : (∃ n, n ≤ a.length ∧ e = .returned (.tuple #[.int .i64 (n : Nat), .bool true]) ∧ (∃ k, inR a.length b.length n k ∧ hitF a b (fun i _ => i == (a.length : Int)) n k = true) ∧ ∀ m, m < n → ∀ k, inR a.length b.length m k → hitF a b (fun i _ => i == (a.length : Int)) m k = false) ∨
       (e = .returned (.tuple #[.int .i64 0, .bool false]) ∧ ∀ m, m ≤ a.length → ∀ k, inR a.length b.length m k → hitF a b (fun i _ => i == (a.length : Int)) m k = false)) :
    ∃ n, e = .returned (.tuple #[.int .i64 (n : Nat), .bool true]) ∧ IsPre a b n := by
 have hit : ∀ n k, hitF a b (fun i _ => i == (a.length : Int)) n k = true ↔ rch (sameAt a b) a.length b.length (n + 1) k = a.length := by
  intro n k
  unfold hitF
  rw [beq_iff_eq]
 have row := fun n => reach_row (sameAt a b) a.length b.length n
 have least : ∀ n, (∀ m, m < n → ∀ k, inR a.length b.length m k → hitF a b (fun i _ => i == (a.length : Int)) m k = false) → ∀ j, j ≤ b.length → n ≤ dist a (b.take j) := by
  intro n hno j hj
  refine Decidable.byContradiction fun hlt => ?_
  rw [dist_take a b j hj] at hlt
  obtain ⟨k2, q1, q2⟩ := (row (lev (sameAt a b) a.length j)).2 ⟨j, hj, Nat.le_refl _⟩
  have := hno _ (by omega) k2 q1
  rw [(hit _ _).2 q2] at this
  cases this
 rcases h with ⟨n, hn, rfl, ⟨k, hk, hh⟩, hno⟩ | ⟨rfl, hno⟩
 · refine ⟨n, rfl, ?_, least n hno⟩
   obtain ⟨j, hj, h1⟩ := (row n).1 ⟨k, hk, (hit n k).1 hh⟩
   have h2 := least n hno j hj
   exact ⟨j, hj, by rw [dist_take a b j hj] at *; omega⟩
 · have := least (a.length + 1) (fun m hm => hno m (by omega)) 0 (by omega)
   rw [dist_take a b 0 (by omega), lev_left] at this
   omega
set_option maxRecDepth 100000 in
set_option maxHeartbeats 1000000 in
theorem Prefix_any (va vb : Value) (a b : List UInt8) (w : World) (hSa : Sl eB w.heap.size w va a) (hSb : Sl eB w.heap.size w vb b) :
    Calls Tryd.prog 34 #[va, vb] w fun e w' => ∃ n : Nat, e = .returned (.int .i64 n) ∧ IsPre (cut a) (cut b) n ∧ Below w.heap.size w w' := by
  obtain ⟨A1, c1, rfl, hc1, -⟩ := id hSa
  obtain ⟨A2, c2, rfl, hc2, -⟩ := id hSb
  have hL1 := fun w => looked_any a A1 c1 hc1 w
  have hL2 := fun w => looked_any b A2 c2 hc2 w
  have hSca := cut_sl hSa
  have hScb := cut_sl hSb
  change ∀ w, Calls Tryd.prog 54 #[.slice A1 a.length c1] w fun e w' => e = .returned (.slice A1 (cut a).length c1) ∧ w = w' at hL1
  change ∀ w, Calls Tryd.prog 54 #[.slice A2 b.length c2] w fun e w' => e = .returned (.slice A2 (cut b).length c2) ∧ w = w' at hL2
  have hmf : ∀ (fn : Fn) (first cap : Array Value) (w : World), (Instr.makeFunc fn first cap).run Tryd.prog w = .ok (.func fn first cap) w := fun _ _ _ _ => rfl
  have hb1 := Boxed.new w 39 (.slice A1 a.length c1)
  have hA1 := below_alloc w (.cells #[.slice A1 a.length c1] 39)
  go_enter Tryd.func34, Tryd.ntmps34
  go_upto_region 1 with fail
  generalize w.alloc (.cells #[.slice A1 a.length c1] 39) = w0 at *
  have g1 := hb1.cell
  have g2 := hb1.frozen
  go_wp2_with fail
  go_at_call 54
  refine (hL1 _).mono ?_
  rintro e w' ⟨rfl, rfl⟩
  go_wp2_with fail
  go_at_call 54
  refine (hL2 _).mono ?_
  rintro e w' ⟨rfl, rfl⟩
  have h6 := hb1.set (.slice A1 (cut a).length c1)
  have hB := below_set1 hA1 (Nat.le_refl _) 0 (.slice A1 (cut a).length c1)
  have q1 := h6.cell
  have hF := fewest_any (cut a) (cut b) (fun i _ => i == ((cut a).length : Int)) (cut_len a) (cut_len b) A1 c1 A2 c2 ((cut a).length : Int) (cut a).length (by omega) 56 #[.pointer (some ⟨w.heap.size, 0, none⟩)] (w0.setCell ⟨w.heap.size, 0, none⟩ (.slice A1 (cut a).length c1))
   (hSca.next hB) (hScb.next hB) (enters_of Tryd.func56 (by kernel_rfl) rfl) (fun i j w' hw => pre_there (cut a) A1 c1 _ i j w' ((hw.cell (p := ⟨w.heap.size, 0, none⟩) h6.lt).trans q1))
  clear hL1 hL2 hSa hSb hSca hScb hA1 hb1
  go_wp2_with fail
  go_at_call 55
  refine hF.mono ?_
  rintro e w3 ⟨hB3, he⟩
  obtain ⟨n, rfl, hn⟩ := prefix_is (cut a) (cut b) e he
  have hBB := below_trans hB hB3
  clear he hF hB3 hB h6 q1 g1 g2
  go_wp2_with fail
  go_ret
  exact ⟨n, rfl, hn, hBB⟩
end Go.Proofs.YtcngnjkpnmpcpaaDoor
