/- A contract of helixref02.Apply by any edit of a row; the words that are two edits from a word and as long. -/
import Derived.Test.YtnlndaknljbhcaaDoorTgEZ
namespace Go.Proofs.YtnlndaknljbhcaaDoor
open Go.RowKit Go.Shelf
attribute [local go_sem] Oper.semAt_some run_store_func

set_option maxRecDepth 100000 in
set_option maxHeartbeats 4000000 in
theorem Apply_none (sv : Value) (s : List UInt8) (z : Int) (b : UInt8) (h0 : 0 < s.length) (hl : s.length ≤ 1000) (w : World) (hS : Sl eB w.heap.size w sv s) :
    Calls Tryd.prog 25 #[sv, eD 0 z b] w fun e w' => ∃ v, e = .returned v ∧ Sl eB w'.heap.size w' v s ∧ Below w.heap.size w w' := by
  obtain ⟨i0, hi, hz0, hz1, hz2⟩ := info_parts info_u8
  obtain ⟨A, c, rfl⟩ := hS.len
  have hcl : (eD 0 z b).cells = cD 0 z b := rfl
  have hr := Rowed.new w 38 (cD 0 z b)
  have hA := below_alloc w (.cells (cD 0 z b) 38)
  have hS0 := hS.below hA
  have hlt := hr.lt
  have hne0 : ((s.length : Int) == 0) = false := by rw [beq_eq_false_iff_ne]; omega
  have Hl := Lib.hid hl
  clear hl h0
  go_enter Tryd.func25, Tryd.ntmps25
  go_upto_region 1 with fail
  generalize w.alloc (.cells (cD 0 z b) 38) = w0 at *
  have hrow := row_made w0
  have hA1 := hA.alloc hA.size (.cells #[] 5)
  have hS1 : Sl eB w.heap.size (w0.alloc (.cells #[] 5)) (.slice A s.length c) s := hS0.below ((Below.refl _ w0).alloc hA.size _)
  have hr1 := hr.alloc (.cells #[] 5)
  have hlt1 := hr1.lt
  go_wp2_with
    (at_builtin
     refine wpList_append_sl _ rfl (.tmp 8) (.tmp 9) _ rfl w0.heap.size 5 i0 (.int .u8 0) 1 Tryd.underlying22 hi hz0 hz1 hz2 rfl _ 0 [] hrow rfl w.heap.size _ s hS1 rfl (fun _ => rfl) (by have := Hl.out; unfold maxLen; omega) (by have := Hl.out; omega) (by simp) ?_
     intro v1 w1 hown1 hg1 hat1
     have hr2 : Rowed w1 w.heap.size 38 (cD 0 z b) := (hg1.block _ hlt1 (by simp [Value.ownBlock]; omega)).trans hr1
     have k0 := hr2.cell 0
     have k1 := hr2.cell 1)
  go_ret
  exact ⟨_, rfl, Sl.of_own (n := s.length) (by simpa using hown1), hA1.trans (below_grown hrow hg1 hA1.size (by have := hA.size; omega))⟩

/-- One edit from a word. -/
def OneE (s y : List UInt8) : Prop :=
  y = s ∨ (∃ p b, p < s.length ∧ codeOf b.toNat ≠ -1 ∧ y = s.set p b) ∨ (∃ p, p < s.length ∧ y = delW s p) ∨ ∃ p b, p ≤ s.length ∧ codeOf b.toNat ≠ -1 ∧ y = insW s p b
theorem Apply_ed (s : List UInt8) (d : Ed) (hd : d.Ok) (h0 : 0 < s.length) (hl : s.length ≤ 100) :
    ∃ y, OneE s y ∧ ∀ sv w, Sl eB w.heap.size w sv s → Calls Tryd.prog 25 #[sv, eD d.k d.z d.b] w fun e w' => ∃ v, e = .returned v ∧ Sl eB w'.heap.size w' v y ∧ Below w.heap.size w w' := by
  obtain ⟨k, z, b⟩ := d
  obtain ⟨hk, hb⟩ := hd
  simp only at hk hb
  rcases hk with rfl | rfl | rfl | rfl
  · exact ⟨s, .inl rfl, fun sv w h => Apply_none sv s z b h0 (by omega) w h⟩
  · obtain ⟨p, hp, hat⟩ := at_is z s.length h0 (by omega)
    exact ⟨delW s p, .inr (.inr (.inl ⟨p, hp, rfl⟩)), fun sv w h => Apply_gap sv s z b p h0 (by omega) hp hat w h⟩
  · obtain ⟨p, hp, hat⟩ := at_is z (s.length + 1) (by omega) (by omega)
    exact ⟨insW s p b, .inr (.inr (.inr ⟨p, b, by omega, by omega, rfl⟩)), fun sv w h => Apply_more sv s z b p h0 (by omega) (by omega) hat w h⟩
  · obtain ⟨p, hp, hat⟩ := at_is z s.length h0 (by omega)
    exact ⟨s.set p b, .inr (.inl ⟨p, b, hp, by omega, rfl⟩), fun sv w h => Apply_swap sv s z b p h0 (by omega) hp hat w h⟩
end Go.Proofs.YtnlndaknljbhcaaDoor
/- Mathematics: of the words two edits from a word and as long none has its sums. -/
namespace Go.Proofs.YtnlndaknljbhcaaDoor
open Go.RowKit Go.Shelf

theorem ext_atB {x y : List UInt8} (hl : x.length = y.length) (h : ∀ k, k < x.length → atB x k = atB y k) : x = y := by
  apply List.ext_getElem hl
  intro k h1 h2
  have := h k h1
  simp only [atB, List.getElem?_eq_getElem h1, List.getElem?_eq_getElem h2, Option.getD_some] at this
  exact this
theorem ins_del_same (x : List UInt8) (p : Nat) (b : UInt8) (hp : p ≤ x.length) : delW (insW x p b) p = x := by
  have hl := insW_length x p b hp
  have hd := delW_length (insW x p b) p (by omega)
  refine ext_atB (by omega) fun k hk => ?_
  rw [atB_del _ _ _ (by omega), atB_ins _ _ _ _ hp, atB_ins _ _ _ _ hp]
  by_cases h : k < p
  · rw [if_pos h, if_pos h]
  · rw [if_neg h, if_neg (by omega), if_neg (by omega), Nat.add_sub_cancel]
theorem ins_del_low (x : List UInt8) (p q : Nat) (b : UInt8) (hp : p ≤ x.length) (hq : q < p) : delW (insW x p b) q = insW (delW x q) (p - 1) b := by
  have hl := insW_length x p b hp
  have hd := delW_length (insW x p b) q (by omega)
  have hdx := delW_length x q (by omega)
  have hix := insW_length (delW x q) (p - 1) b (by omega)
  refine ext_atB (by omega) fun k hk => ?_
  rw [atB_del _ _ _ (by omega), atB_ins _ _ _ _ hp, atB_ins _ _ _ _ hp, atB_ins _ _ _ _ (by omega), atB_del _ _ _ (by omega), atB_del _ _ _ (by omega)]
  by_cases h1 : k < q
  · rw [if_pos h1, if_pos (by omega), if_pos (by omega), if_pos h1]
  · rw [if_neg h1]
    by_cases h2 : k + 1 < p
    · rw [if_pos h2, if_pos (by omega), if_neg h1]
    · rw [if_neg h2]
      by_cases h3 : k + 1 = p
      · rw [if_pos h3, if_neg (by omega), if_pos (by omega)]
      · rw [if_neg h3, if_neg (by omega), if_neg (by omega), if_neg (by omega), Nat.add_sub_cancel, Nat.sub_add_cancel (by omega)]
theorem ins_del_high (x : List UInt8) (p q : Nat) (b : UInt8) (hp : p < q) (hq : q ≤ x.length) : delW (insW x p b) q = insW (delW x (q - 1)) p b := by
  have hl := insW_length x p b (by omega)
  have hd := delW_length (insW x p b) q (by omega)
  have hdx := delW_length x (q - 1) (by omega)
  have hix := insW_length (delW x (q - 1)) p b (by omega)
  refine ext_atB (by omega) fun k hk => ?_
  rw [atB_del _ _ _ (by omega), atB_ins _ _ _ _ (by omega), atB_ins _ _ _ _ (by omega), atB_ins _ _ _ _ (by omega), atB_del _ _ _ (by omega), atB_del _ _ _ (by omega)]
  by_cases h1 : k < p
  · rw [if_pos (by omega), if_pos h1, if_pos h1, if_pos (by omega)]
  · by_cases h2 : k = p
    · rw [if_pos (by omega), if_neg h1, if_pos h2, if_neg h1, if_pos h2]
    · rw [if_neg h1, if_neg h2, if_neg (show ¬ k + 1 < p by omega), if_neg (show ¬ k + 1 = p by omega), Nat.add_sub_cancel, if_neg h1, if_neg h2]
      by_cases h3 : k < q
      · rw [if_pos h3, if_pos (by omega)]
      · rw [if_neg h3, if_neg (by omega), Nat.sub_add_cancel (by omega)]

/-- All letters are of the four. -/
def Four (s : List UInt8) : Prop := ∀ k, k < s.length → codeOf (atB s k).toNat ≠ -1
theorem Four.one {s y : List UInt8} (h : Four s) (ho : OneE s y) : Four y := by
  rcases ho with rfl | ⟨p, b, hp, hb, rfl⟩ | ⟨p, hp, rfl⟩ | ⟨p, b, hp, hb, rfl⟩
  · exact h
  · intro k hk
    rw [List.length_set] at hk
    by_cases e : p = k
    · subst e
      rw [atB_set _ _ _ hp]
      exact hb
    · rw [atB_set_other _ _ e]
      exact h k hk
  · intro k hk
    have := delW_length s p hp
    rw [atB_del _ _ _ hp]
    split
    · exact h k (by omega)
    · exact h (k + 1) (by omega)
  · intro k hk
    have := insW_length s p b hp
    rw [atB_ins _ _ _ _ hp]
    split
    · exact h k (by omega)
    · split
      · exact hb
      · exact h (k - 1) (by omega)
theorem OneE.length {s y : List UInt8} (ho : OneE s y) : y.length ≤ s.length + 1 ∧ s.length ≤ y.length + 1 := by
  rcases ho with rfl | ⟨p, b, hp, hb, rfl⟩ | ⟨p, hp, rfl⟩ | ⟨p, b, hp, hb, rfl⟩
  · omega
  · rw [List.length_set]; omega
  · have := delW_length s p hp
    omega
  · rw [insW_length _ _ _ hp]; omega
theorem two_edits {x y z : List UInt8} (hn : 2 ≤ x.length) (hx : Four x) (h1 : OneE x y) (h2 : OneE y z) (hl : z.length = x.length)
    (eT : sT z x.length % x.length = sT x x.length % x.length) (eS : sS z x.length % 4 = sS x x.length % 4) (eW : sW z x.length % (6 * x.length + 1) = sW x x.length % (6 * x.length + 1)) : z = x := by
  have hz : ∀ k, k < x.length → codeOf (atB z k).toNat ≠ -1 := fun k hk => (hx.one h1).one h2 k (by omega)
  rcases h1 with rfl | ⟨p, b, hp, hb, rfl⟩ | ⟨p, hp, rfl⟩ | ⟨p, b, hp, hb, rfl⟩
  · rcases h2 with rfl | ⟨q, c, hq, hc, rfl⟩ | ⟨q, hq, rfl⟩ | ⟨q, c, hq, hc, rfl⟩
    · rfl
    · have e : (y.set q c).set q c = y.set q c := by rw [List.set_set]
      rw [← e] at eS eW hz ⊢
      exact swap_same y q q c c hn hq hq hx hz eS eW
    · have := delW_length y q hq
      omega
    · have := insW_length y q c hq
      omega
  · rcases h2 with rfl | ⟨q, c, hq, hc, rfl⟩ | ⟨q, hq, rfl⟩ | ⟨q, c, hq, hc, rfl⟩
    · have e : (x.set p b).set p b = x.set p b := by rw [List.set_set]
      rw [← e] at eS eW hz ⊢
      exact swap_same x p p b b hn hp hp hx hz eS eW
    · rw [List.length_set] at hq
      exact swap_same x p q b c hn hp hq hx hz eS eW
    · have := delW_length (x.set p b) q hq
      rw [List.length_set] at this
      omega
    · have := insW_length (x.set p b) q c hq
      rw [List.length_set] at this
      omega
  · have hd := delW_length x p hp
    rcases h2 with rfl | ⟨q, c, hq, hc, rfl⟩ | ⟨q, hq, rfl⟩ | ⟨q, c, hq, hc, rfl⟩
    · omega
    · rw [List.length_set] at hl
      omega
    · have := delW_length _ q hq
      omega
    · exact gap_same x p q c hp (by omega) hx hz eT eS
  · have hd := insW_length x p b hp
    rcases h2 with rfl | ⟨q, c, hq, hc, rfl⟩ | ⟨q, hq, rfl⟩ | ⟨q, c, hq, hc, rfl⟩
    · omega
    · rw [List.length_set] at hl
      omega
    · rcases Nat.lt_trichotomy q p with h | h | h
      · rw [ins_del_low x p q b hp h] at eT eS hz ⊢
        exact gap_same x q (p - 1) b (by omega) (by omega) hx hz eT eS
      · subst h
        exact ins_del_same x q b hp
      · rw [ins_del_high x p q b h (by omega)] at eT eS hz ⊢
        exact gap_same x (q - 1) p b (by omega) (by omega) hx hz eT eS
    · have := insW_length _ q c hq
      omega
end Go.Proofs.YtnlndaknljbhcaaDoor
