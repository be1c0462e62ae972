/- Mathematics: of the words two edits from a word and as long none has its sums. -/
import Derived.Test.YtnlndaknljbhcaaDoorTgFZ
namespace Go.Proofs.YtnlndaknljbhcaaDoor
open Go.RowKit Go.Shelf

theorem ext_atB {x y : List UInt8} (hl : x.length = y.length) (h : ∀ k, k < x.length → atB x k = atB y k) : x = y := by
  apply List.ext_getElem hl
  intro k h1 h2
  have := h k h1
  simp only [atB, List.getElem?_eq_getElem h1, List.getElem?_eq_getElem h2, Option.getD_some] at this
  exact this
theorem ins_del_same (x : List UInt8) (p : Nat) (b : UInt8) (hp : p ≤ x.length) : delW (insW x p b) p = x := by
  have hl := insW_length x p b hp
  have hd := delW_length (insW x p b) p (by omega)
  refine ext_atB (by omega) fun k hk => ?_
  rw [atB_del _ _ _ (by omega), atB_ins _ _ _ _ hp, atB_ins _ _ _ _ hp]
  by_cases h : k < p
  · rw [if_pos h, if_pos h]
  · rw [if_neg h, if_neg (by omega), if_neg (by omega), Nat.add_sub_cancel]
theorem ins_del_low (x : List UInt8) (p q : Nat) (b : UInt8) (hp : p ≤ x.length) (hq : q < p) : delW (insW x p b) q = insW (delW x q) (p - 1) b := by
  have hl := insW_length x p b hp
  have hd := delW_length (insW x p b) q (by omega)
  have hdx := delW_length x q (by omega)
  have hix := insW_length (delW x q) (p - 1) b (by omega)
  refine ext_atB (by omega) fun k hk => ?_
  rw [atB_del _ _ _ (by omega), atB_ins _ _ _ _ hp, atB_ins _ _ _ _ hp, atB_ins _ _ _ _ (by omega), atB_del _ _ _ (by omega), atB_del _ _ _ (by omega)]
  by_cases h1 : k < q
  · rw [if_pos h1, if_pos (by omega), if_pos (by omega), if_pos h1]
  · rw [if_neg h1]
    by_cases h2 : k + 1 < p
    · rw [if_pos h2, if_pos (by omega), if_neg h1]
    · rw [if_neg h2]
      by_cases h3 : k + 1 = p
      · rw [if_pos h3, if_neg (by omega), if_pos (by omega)]
      · rw [if_neg h3, if_neg (by omega), if_neg (by omega), if_neg (by omega), Nat.add_sub_cancel, Nat.sub_add_cancel (by omega)]
theorem ins_del_high (x : List UInt8) (p q : Nat) (b : UInt8) (hp : p < q) (hq : q ≤ x.length) : delW (insW x p b) q = insW (delW x (q - 1)) p b := by
  have hl := insW_length x p b (by omega)
  have hd := delW_length (insW x p b) q (by omega)
  have hdx := delW_length x (q - 1) (by omega)
  have hix := insW_length (delW x (q - 1)) p b (by omega)
  refine ext_atB (by omega) fun k hk => ?_
  rw [atB_del _ _ _ (by omega), atB_ins _ _ _ _ (by omega), atB_ins _ _ _ _ (by omega), atB_ins _ _ _ _ (by omega), atB_del _ _ _ (by omega), atB_del _ _ _ (by omega)]
  by_cases h1 : k < p
  · rw [if_pos (by omega), if_pos h1, if_pos h1, if_pos (by omega)]
  · by_cases h2 : k = p
    · rw [if_pos (by omega), if_neg h1, if_pos h2, if_neg h1, if_pos h2]
    · rw [if_neg h1, if_neg h2, if_neg (show ¬ k + 1 < p by omega), if_neg (show ¬ k + 1 = p by omega), Nat.add_sub_cancel, if_neg h1, if_neg h2]
      by_cases h3 : k < q
      · rw [if_pos h3, if_pos (by omega)]
      · rw [if_neg h3, if_neg (by omega), Nat.sub_add_cancel (by omega)]

/-- All letters are of the four. -/
def Four (s : List UInt8) : Prop := ∀ k, k < s.length → codeOf (atB s k).toNat ≠ -1
theorem Four.one {s y : List UInt8} (h : Four s) (ho : OneE s y) : Four y := by
  rcases ho with rfl | ⟨p, b, hp, hb, rfl⟩ | ⟨p, hp, rfl⟩ | ⟨p, b, hp, hb, rfl⟩
  · exact h
  · intro k hk
    rw [List.length_set] at hk
    by_cases e : p = k
    · subst e
      rw [atB_set _ _ _ hp]
      exact hb
    · rw [atB_set_other _ _ e]
      exact h k hk
  · intro k hk
    have := delW_length s p hp
    rw [atB_del _ _ _ hp]
    split
    · exact h k (by omega)
    · exact h (k + 1) (by omega)
  · intro k hk
    have := insW_length s p b hp
    rw [atB_ins _ _ _ _ hp]
    split
    · exact h k (by omega)
    · split
      · exact hb
      · exact h (k - 1) (by omega)
theorem OneE.length {s y : List UInt8} (ho : OneE s y) : y.length ≤ s.length + 1 ∧ s.length ≤ y.length + 1 := by
  rcases ho with rfl | ⟨p, b, hp, hb, rfl⟩ | ⟨p, hp, rfl⟩ | ⟨p, b, hp, hb, rfl⟩
  · omega
  · rw [List.length_set]; omega
  · have := delW_length s p hp
    omega
  · rw [insW_length _ _ _ hp]; omega
theorem two_edits {x y z : List UInt8} (hn : 2 ≤ x.length) (hx : Four x) (h1 : OneE x y) (h2 : OneE y z) (hl : z.length = x.length)
    (eT : sT z x.length % x.length = sT x x.length % x.length) (eS : sS z x.length % 4 = sS x x.length % 4) (eW : sW z x.length % (6 * x.length + 1) = sW x x.length % (6 * x.length + 1)) : z = x := by
  have hz : ∀ k, k < x.length → codeOf (atB z k).toNat ≠ -1 := fun k hk => (hx.one h1).one h2 k (by omega)
  rcases h1 with rfl | ⟨p, b, hp, hb, rfl⟩ | ⟨p, hp, rfl⟩ | ⟨p, b, hp, hb, rfl⟩
  · rcases h2 with rfl | ⟨q, c, hq, hc, rfl⟩ | ⟨q, hq, rfl⟩ | ⟨q, c, hq, hc, rfl⟩
    · rfl
    · have e : (y.set q c).set q c = y.set q c := by rw [List.set_set]
      rw [← e] at eS eW hz ⊢
      exact swap_same y q q c c hn hq hq hx hz eS eW
    · have := delW_length y q hq
      omega
    · have := insW_length y q c hq
      omega
  · rcases h2 with rfl | ⟨q, c, hq, hc, rfl⟩ | ⟨q, hq, rfl⟩ | ⟨q, c, hq, hc, rfl⟩
    · have e : (x.set p b).set p b = x.set p b := by rw [List.set_set]
      rw [← e] at eS eW hz ⊢
      exact swap_same x p p b b hn hp hp hx hz eS eW
    · rw [List.length_set] at hq
      exact swap_same x p q b c hn hp hq hx hz eS eW
    · have := delW_length (x.set p b) q hq
      rw [List.length_set] at this
      omega
    · have := insW_length (x.set p b) q c hq
      rw [List.length_set] at this
      omega
  · have hd := delW_length x p hp
    rcases h2 with rfl | ⟨q, c, hq, hc, rfl⟩ | ⟨q, hq, rfl⟩ | ⟨q, c, hq, hc, rfl⟩
    · omega
    · rw [List.length_set] at hl
      omega
    · have := delW_length _ q hq
      omega
    · exact gap_same x p q c hp (by omega) hx hz eT eS
  · have hd := insW_length x p b hp
    rcases h2 with rfl | ⟨q, c, hq, hc, rfl⟩ | ⟨q, hq, rfl⟩ | ⟨q, c, hq, hc, rfl⟩
    · omega
    · rw [List.length_set] at hl
      omega
    · rcases Nat.lt_trichotomy q p with h | h | h
      · rw [ins_del_low x p q b hp h] at eT eS hz ⊢
        exact gap_same x q (p - 1) b (by omega) (by omega) hx hz eT eS
      · subst h
        exact ins_del_same x q b hp
      · rw [ins_del_high x p q b h (by omega)] at eT eS hz ⊢
        exact gap_same x (q - 1) p b (by omega) (by omega) hx hz eT eS
    · have := insW_length _ q c hq
      omega
end Go.Proofs.YtnlndaknljbhcaaDoor
