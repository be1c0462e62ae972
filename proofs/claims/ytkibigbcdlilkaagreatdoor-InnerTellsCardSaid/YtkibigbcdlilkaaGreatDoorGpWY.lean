import Derived.Test.YtkibigbcdlilkaaGreatDoorGpKY
import Derived.Test.YtkibigbcdlilkaaGreatDoorGpUY
namespace Go.Proofs.YtkibigbcdlilkaaGreatDoor.Gp
open Go.RowKit Go.Shelf
def FourG (y : List UInt8) : Prop := ∀ k, k < y.length → codeOf (atB y k).toNat ≠ -1
theorem fits_four (y : List UInt8) (h1 : 1 ≤ y.length) (h9 : y.length ≤ 999) (h4 : FourG y) : fitsG y = none := by
 unfold fitsG
 rw [if_neg (by omega), if_neg]
 intro h
 obtain ⟨b, hb, e⟩ := List.mem_map.1 h
 obtain ⟨k, hk, rfl⟩ := List.mem_iff_getElem.1 hb
 exact h4 k hk (by rw [show atB y k = y[k] by simp [atB, hk]]; exact e)
theorem four_ins (y : List UInt8) (p : Nat) (c : UInt8) (hp : p ≤ y.length) (h4 : FourG y) (hc : codeOf c.toNat ≠ -1) : FourG (insW y p c) := by
 intro k hk
 rw [insW_length _ _ _ hp] at hk
 rw [atB_ins y p k c hp]
 split
 · exact h4 k (by omega)
 · split
   · exact hc
   · exact h4 (k - 1) (by omega)
theorem gap_runs (x : List UInt8) (c : UInt8) (p q : Nat) (hp : p ≤ x.length) (hq : q ≤ x.length) (h4 : FourG x) (hc : codeOf c.toNat ≠ -1) : (placesG x c p == placesG x c q) = decide (insW x p c = insW x q c) := by
 have e1 : placesG x c p = sT (insW x p c) (x.length + 1) % ((x.length : Int) + 1) := by rw [tG_ins x c p hp]; rfl
 have e2 : placesG x c q = sT (insW x q c) (x.length + 1) % ((x.length : Int) + 1) := by rw [tG_ins x c q hq]; rfl
 have l1 := insW_length x p c hp
 have l2 := insW_length x q c hq
 have hcast : (((x.length + 1 : Nat) : Nat) : Int) = (x.length : Int) + 1 := by omega
 rw [Bool.eq_iff_iff, beq_iff_eq, decide_eq_true_eq, e1, e2]
 constructor
 · intro h
   have hd := ins_del_same x p c hp
   have hg := gap_same (insW x p c) p q c (by omega) (by omega) (four_ins x p c hp h4 hc)
   rw [hd, l1, hcast] at hg
   refine (hg (fun k hk => four_ins x q c hq h4 hc k (by omega)) h.symm ?_).symm
   have k1 := sS_all (insW x p c)
   have k2 := sS_all (insW x q c)
   rw [l1] at k1
   rw [l2] at k2
   rw [k1, k2, csum_ins, csum_ins]
 · intro h
   rw [h]
theorem ins_del_at (x : List UInt8) (p : Nat) (hp : p < x.length) : insW (delW x p) p (atB x p) = x := by
 have hl : (x.take p).length = p := by simp; omega
 have ha : atB x p = x[p] := by simp [atB, hp]
 rw [insW, delW, List.take_left' hl, List.drop_left' hl, ha, ← List.take_succ_eq_append_getElem hp, List.take_append_drop]
theorem four_del (x : List UInt8) (p : Nat) (hp : p < x.length) (h4 : FourG x) : FourG (delW x p) := by
 intro k hk
 have := delW_length x p hp
 rw [atB_del x p k hp]
 split
 · exact h4 k (by omega)
 · exact h4 (k + 1) (by omega)
theorem miss_del (x : List UInt8) (p : Nat) (hp : p < x.length) (h4 : FourG x) : missL (delW x p) (sS x x.length % 4) = atB x p := by
 have h := csum_ins (delW x p) p (atB x p)
 rw [ins_del_at x p hp] at h
 have e : letterOf (sS x x.length % 4 - csum (delW x p)) = letterOf (codeOf (atB x p).toNat) := by
  unfold letterOf
  congr 2
  rw [sS_all, h]
  omega
 rw [missL, e, code_letter (h4 p hp)]
theorem gap_back (x : List UInt8) (p : Nat) (hp : p < x.length) (h2 : 2 ≤ x.length) (h9 : x.length ≤ 1000) (h4 : FourG x) : gapG (delW x p) (sT x x.length % x.length) (sS x x.length % 4) = .ok x := by
 have hl := delW_length x p hp
 have h4' := four_del x p hp h4
 have hm := miss_del x p hp h4
 have hc : codeOf (atB x p).toNat ≠ -1 := h4 p hp
 have ex := ins_del_at x p hp
 have hcast : ((delW x p).length : Int) + 1 = (x.length : Int) := by omega
 have hT : placesG (delW x p) (atB x p) p = sT x x.length % x.length := by
  rw [placesG, ← tG_ins (delW x p) (atB x p) p (by omega), ex, hl, hcast]
 rw [gapG, fits_four _ (by omega) (by omega) h4']
 simp only [if_neg (show ¬ (sS x x.length % 4 < 0 ∨ 3 < sS x x.length % 4) by omega)]
 cases hf : (List.range ((delW x p).length + 1)).find? (hitG (delW x p) (sT x x.length % x.length) (sS x x.length % 4)) with
 | none =>
   exfalso
   have := List.find?_eq_none.1 hf p (by simp; omega)
   exact this (by rw [hitG, hm, hT]; simp)
 | some q =>
   obtain ⟨hh, hq, -⟩ := List.find?_range_eq_some.1 hf
   have hq : q < (delW x p).length + 1 := by simpa using hq
   rw [hitG, hm, ← hT, Bool.beq_comm, gap_runs (delW x p) (atB x p) p q (by omega) (by omega) h4' hc] at hh
   have := of_decide_eq_true hh
   simp only [hm]
   rw [← this, ex]
theorem insOk_all (y : List UInt8) (t s : Int) : InsOk y t s := by
 intro p hf hp
 obtain ⟨h1, h9⟩ := fits_len hf
 obtain ⟨-, hq, -⟩ := List.find?_range_eq_some.1 hp
 have hq : p < y.length + 1 := by simpa using hq
 exact insert_any y p _ (by omega) (by omega) (by omega)
end Go.Proofs.YtkibigbcdlilkaaGreatDoor.Gp
