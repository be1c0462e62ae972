import Derived.Test.YtcngnjkpnmpcpaaDoorPcGZ
import Derived.Test.YtcngnjkpnmpcpaaDoorPcNZ
namespace Go.Proofs.YtcngnjkpnmpcpaaDoor
open Go.RowKit Go.Shelf
theorem plG_lt (z : Int) (n : Nat) (h : 0 < n) (hn : n ≤ 100000) : plG z n < n := (pl_is z n h hn).1
theorem cut_at (s : List UInt8) (p : Nat) (h : p < s.length) : s = s.take p ++ s[p] :: s.drop (p + 1) := by
 rw [← List.drop_eq_getElem_cons h, List.take_append_drop]
theorem way_ap (s : List UInt8) (k : UInt8) (z : Int) (b : UInt8) (hl : s.length ≤ 1000) : ∃ m, m ≤ 1 ∧ Way m s (apG s k z b) := by
 unfold apG
 by_cases h1 : k = 1
 · rw [if_pos h1]
   by_cases h0 : s.length = 0
   · rw [if_pos h0]; exact ⟨0, by omega, Way.refl s⟩
   · rw [if_neg h0]
     have hp := plG_lt z s.length (by omega) (by omega)
     have := (Way.refl (s.take (plG z s.length))).append (Way.gap s[plG z s.length] (Way.refl (s.drop (plG z s.length + 1))))
     rw [← cut_at s _ hp] at this
     exact ⟨1, by omega, this⟩
 · rw [if_neg h1]
   by_cases h2 : k = 2
   · rw [if_pos h2]
     have := (Way.refl (s.take (plG z (s.length + 1)))).append (Way.more b (Way.refl (s.drop (plG z (s.length + 1)))))
     rw [List.take_append_drop] at this
     exact ⟨1, by omega, this⟩
   · rw [if_neg h2]
     by_cases h3 : k = 3
     · rw [if_pos h3]
       by_cases h0 : s.length = 0
       · rw [if_pos h0]; exact ⟨0, by omega, Way.refl s⟩
       · rw [if_neg h0]
         have hp := plG_lt z s.length (by omega) (by omega)
         have := (Way.refl (s.take (plG z s.length))).append (Way.swap s[plG z s.length] b (Way.refl (s.drop (plG z s.length + 1))))
         rw [← cut_at s _ hp] at this
         exact ⟨1, by omega, this⟩
     · rw [if_neg h3]; exact ⟨0, by omega, Way.refl s⟩
theorem apG_len (s : List UInt8) (k : UInt8) (z : Int) (b : UInt8) : (apG s k z b).length ≤ s.length + 1 := by
 unfold apG
 split
 · split
   · omega
   · rw [List.length_append, List.length_take, List.length_drop]; omega
 · split
   · rw [List.length_append, List.length_cons, List.length_take, List.length_drop]; omega
   · split
     · split
       · omega
       · rw [List.length_append, List.length_cons, List.length_take, List.length_drop]; omega
     · omega
theorem fine_len {L : List Pr} (hE : chkE L = 0) {p : Nat} (hp : p < (allP L).length) : (allP L)[p].length = 16 := by
 have hb : chkB L = true := by
  unfold chkE at hE
  by_cases h : chkB L = true
  · exact h
  · rw [if_neg h] at hE; cases hE
 unfold chkB at hb
 rw [Bool.and_eq_true] at hb
 have tj := chkF_get _ [] hb.2 p hp
 unfold takeB at tj
 rw [Bool.and_eq_true] at tj
 exact (oneG_is.1 tj.1).1
theorem begI_edit {L : List Pr} (hE : chkE L = 0) {p : Nat} (hp : p < (allP L).length) (t : List UInt8) (ht : t.length ≤ 60) (k : UInt8) (z : Int) (b : UInt8) : begI L (apG ((allP L)[p] ++ t) k z b) = p := by
 have h16 := fine_len hE hp
 have hl : ((allP L)[p] ++ t).length ≤ 76 := by rw [List.length_append]; omega
 obtain ⟨m, hm, hw⟩ := way_ap ((allP L)[p] ++ t) k z b (by omega)
 have hal := apG_len ((allP L)[p] ++ t) k z b
 have hbp := beg_edit (by omega) (by omega) hm hw
 have hpre : (allP L).take p ++ [(allP L)[p]] <+: allP L := by
  rw [← List.take_succ_eq_append_getElem hp]
  exact List.take_prefix _ _
 have := (begI_at hpre (fun q hq => by
  obtain ⟨j, hj, rfl⟩ := List.mem_iff_getElem.1 hq
  rw [List.length_take] at hj
  rw [List.getElem_take]
  cases e : begB (apG ((allP L)[p] ++ t) k z b) ((allP L)[j]'(by omega)) with
  | false => rfl
  | true => exact (beg_one hE (show j < p by omega) hp e hbp).elim) hbp).1
 rw [this, List.length_take]
 omega
theorem beg_edit_RK {L : List Pr} (hE : chkE L = 0) {p : Nat} (hp : p < (allP L).length) (t : List UInt8) (ht : t.length ≤ 60) (k : UInt8) (z : Int) (b : UInt8) : begR L (apG ((allP L)[p] ++ t) k z b) = (p : Int) ∧ begK L (apG ((allP L)[p] ++ t) k z b) = true := by
 have h := begI_edit hE hp t ht k z b
 unfold begR begK
 rw [h]
 exact ⟨if_pos hp, decide_eq_true hp⟩
end Go.Proofs.YtcngnjkpnmpcpaaDoor
