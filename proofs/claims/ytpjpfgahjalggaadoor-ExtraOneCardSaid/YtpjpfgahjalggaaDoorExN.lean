/- What a word with a letter put in is found to be; helixref02.Apply and helixref12.Of, whatever the word. -/
import Derived.Test.YtpjpfgahjalggaaDoorAmB
import Derived.Test.YtpjpfgahjalggaaDoorGC
namespace Go.Proofs.YtpjpfgahjalggaaDoor
open Go.RowKit Go.Shelf
attribute [local go_sem] Oper.semAt_some run_store_func

theorem sums_ok {x : List UInt8} {v : Int × Int × Int} (h : sumsG x = .ok v) : 2 ≤ x.length ∧ x.length ≤ 1000 ∧ FourL x ∧ v = (sT x x.length % x.length, sS x x.length % 4, sW x x.length % (6 * x.length + 1)) := by
  unfold sumsG at h
  split at h
  · cases h
  · rename_i hm
    split at h
    · cases h
    · rename_i hf
      injection h with h
      have hm : mayB x.length = true := by simpa using hm
      unfold mayB at hm
      rw [Bool.and_eq_true, decide_eq_true_eq, decide_eq_true_eq] at hm
      exact ⟨by omega, by omega, fun k hk e => hf ⟨k, hk, e⟩, h.symm⟩
theorem hit_put (x : List UInt8) (p : Nat) (b : UInt8) (a1 a2 a3 : Int) (hx : sumsG x = .ok (a1, a2, a3)) (hp : p ≤ x.length) : hitE (insW x p b) a1 a2 a3 p = true := by
  obtain ⟨-, -, -, e⟩ := sums_ok hx
  cases e
  have hl := insW_length x p b hp
  unfold hitE s1G s2G s3G
  rw [ins_del_same x p b hp, hl]
  simp
theorem hit_same (x : List UInt8) (p k : Nat) (b : UInt8) (a1 a2 a3 : Int) (hx : sumsG x = .ok (a1, a2, a3)) (hy : FourL (insW x p b)) (hp : p ≤ x.length) (hk : k < (insW x p b).length) (h : hitE (insW x p b) a1 a2 a3 k = true) : delW (insW x p b) k = x := by
  obtain ⟨-, -, hx4, e⟩ := sums_ok hx
  cases e
  have hl := insW_length x p b hp
  have hd := delW_length (insW x p b) k hk
  have h4 := four_delL (insW x p b) k hk hy
  replace h4 : ∀ j, j < x.length → codeOf (atB (delW (insW x p b) k) j).toNat ≠ -1 := fun j hj => h4 j (by omega)
  unfold hitE s1G s2G s3G at h
  rw [show (insW x p b).length - 1 = x.length by omega] at h
  simp only [Bool.and_eq_true, beq_iff_eq] at h
  obtain ⟨eT, eS, -⟩ := h
  rcases Nat.lt_trichotomy k p with h1 | h1 | h1
  · have e := ins_del_low x p k b hp h1
    rw [e] at eT eS h4 ⊢
    exact gap_same x k (p - 1) b (by omega) (by omega) hx4 h4 eT eS
  · rw [h1]
    exact ins_del_same x p b hp
  · have e := ins_del_high x p k b h1 (by omega)
    rw [e] at eT eS h4 ⊢
    exact gap_same x (k - 1) p b (by omega) (by omega) hx4 h4 eT eS
theorem right_of (y : List UInt8) (a1 a2 a3 : Int) (x : List UInt8) (hx : sumsG x = .ok (a1, a2, a3)) (hn : y.length = x.length + 1) : rightB a1 a2 a3 ((y.length : Int) - 1) = true := by
  obtain ⟨h2, h9, -, e⟩ := sums_ok hx
  cases e
  rw [show (y.length : Int) - 1 = (x.length : Int) by omega]
  unfold rightB mayB
  have b1 := Int.emod_nonneg (sT x x.length) (show (x.length : Int) ≠ 0 by omega)
  have b2 := Int.emod_lt_of_pos (sT x x.length) (show (0 : Int) < (x.length : Int) by omega)
  have b3 : 0 ≤ sS x x.length % 4 := by omega
  have b4 : sS x x.length % 4 < 4 := by omega
  have b5 := Int.emod_nonneg (sW x x.length) (show (6 * (x.length : Int) + 1) ≠ 0 by omega)
  have b6 := Int.emod_lt_of_pos (sW x x.length) (show (0 : Int) < 6 * (x.length : Int) + 1 by omega)
  rw [decide_eq_true (show (2 : Int) ≤ x.length by omega), decide_eq_true (show (x.length : Int) ≤ 1000 by omega), decide_eq_true b1, decide_eq_true b2, decide_eq_true b3, decide_eq_true b4, decide_eq_true b5, decide_eq_true (show sW x x.length % (6 * (x.length : Int) + 1) ≤ 6 * (x.length : Int) by omega)]
  rfl
theorem find_put (x : List UInt8) (p : Nat) (b : UInt8) (a1 a2 a3 : Int) (t : Int × Int × Int) (hx : sumsG x = .ok (a1, a2, a3)) (hy : sumsG (insW x p b) = .ok t) (hp : p ≤ x.length) :
    ∃ k, findE (insW x p b) a1 a2 a3 = .ok k ∧ k < (insW x p b).length ∧ delW (insW x p b) k = x := by
  obtain ⟨h2, h9, hx4, -⟩ := sums_ok hx
  obtain ⟨g2, g9, hy4, -⟩ := sums_ok hy
  have hl := insW_length x p b hp
  have hpy : p < (insW x p b).length := by omega
  have hh := hit_put x p b a1 a2 a3 hx hp
  have hR := right_of (insW x p b) a1 a2 a3 x hx hl
  cases hf : (List.range (insW x p b).length).find? (hitE (insW x p b) a1 a2 a3) with
  | none =>
    rw [List.find?_eq_none] at hf
    exact absurd hh (hf p (by simpa using hpy))
  | some k =>
    obtain ⟨h1, h3, -⟩ := List.find?_range_eq_some.1 hf
    have hk : k < (insW x p b).length := by simpa using h3
    refine ⟨k, ?_, hk, hit_same x p k b a1 a2 a3 hx hy4 hp hk h1⟩
    rw [findE, if_neg (by rw [hR]; simp; omega), if_neg ((fourL_iff _).1 hy4), hf]
/-- The three sums and the error of a word. -/
def sE (x : List UInt8) : Int × Int × Int × Int := match sumsG x with | .ok (a, b, c) => (a, b, c, 0) | .error m => (0, 0, 0, m)
theorem rOf_all (sv : Value) (x : List UInt8) (w : World) (hS : Sl eB w.heap.size w sv x) :
    Calls Tryd.prog 14 #[sv] w fun e w' => e = .returned (.tuple #[v3 (sE x).1 (sE x).2.1 (sE x).2.2.1, .int .i64 (sE x).2.2.2]) ∧ Below w.heap.size w w' :=
  (rOf_full sv x w hS).mono (by
    rintro e w' ⟨hB, ⟨a, b, c, h, rfl⟩ | ⟨m, h, rfl⟩⟩
    · unfold sE; rw [h]; exact ⟨rfl, hB⟩
    · unfold sE; rw [h]; exact ⟨rfl, hB⟩)
theorem sE_zero {x : List UInt8} (h : (sE x).2.2.2 = 0) : sumsG x = .ok ((sE x).1, (sE x).2.1, (sE x).2.2.1) := by
  unfold sE at h ⊢
  unfold sumsG at h ⊢
  split
  · rename_i h1; rw [if_pos h1] at h; cases h
  · rename_i h1
    rw [if_neg h1] at h
    split
    · rename_i h2; rw [if_pos h2] at h; cases h
    · rfl
theorem at_isL (z : Int) (L : Nat) (hL : L ≤ 140737488351232) : ∃ k : Nat, k ≤ L ∧ (wrap64 (z.tmod ((L + 1 : Nat) : Int) + ((L + 1 : Nat) : Int))).tmod ((L + 1 : Nat) : Int) = (k : Int) := by
  have h1 : z.tmod ((L + 1 : Nat) : Int) < ((L + 1 : Nat) : Int) := Int.tmod_lt_of_pos z (by omega)
  have h2 : -((L + 1 : Nat) : Int) < z.tmod ((L + 1 : Nat) : Int) := by
    have := Int.lt_tmod_of_pos z (show (0 : Int) < ((L + 1 : Nat) : Int) by omega)
    omega
  generalize z.tmod ((L + 1 : Nat) : Int) = r at *
  have e1 : wrap64 (r + ((L + 1 : Nat) : Int)) = r + ((L + 1 : Nat) : Int) := IntWalk.wrap64_in _ (by omega)
  rw [e1]
  have h3 : (r + ((L + 1 : Nat) : Int)).tmod ((L + 1 : Nat) : Int) < ((L + 1 : Nat) : Int) := Int.tmod_lt_of_pos _ (by omega)
  have h4 : 0 ≤ (r + ((L + 1 : Nat) : Int)).tmod ((L + 1 : Nat) : Int) := Int.tmod_nonneg _ (by omega)
  exact ⟨((r + ((L + 1 : Nat) : Int)).tmod ((L + 1 : Nat) : Int)).toNat, by omega, by omega⟩
/-- A letter put into any word. -/
theorem Apply_put (s : List UInt8) (z : Int) (b : UInt8) (hl : s.length ≤ 140737488351232) : ∃ p, p ≤ s.length ∧ ∀ (sv : Value) (w : World), Sl eB w.heap.size w sv s →
    Calls Tryd.prog 15 #[sv, eD 2 z b] w fun e w' => ∃ v, e = .returned v ∧ Sl eB w'.heap.size w' v (insW s p b) ∧ Below w.heap.size w w' := by
  obtain ⟨p, hp, hat⟩ := at_isL z s.length hl
  refine ⟨p, hp, fun sv w hS => ?_⟩
  by_cases h0 : 0 < s.length
  · exact Apply_moreP sv s z b p h0 hl hp hat w hS
  · obtain rfl : s = [] := List.eq_nil_of_length_eq_zero (by omega)
    obtain rfl : p = 0 := by simpa using hp
    obtain ⟨A, c, rfl⟩ := hS.len
    exact Apply_moreE A c z b w
end Go.Proofs.YtpjpfgahjalggaaDoor
