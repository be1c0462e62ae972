/- A contract of helixref02.Apply by any edit of a row; the words that are two edits from a word and as long. -/
import Derived.Test.YtheealkoooiloaaDoorTgE
namespace Go.Proofs.YtheealkoooiloaaDoor
open Go.RowKit Go.Shelf
attribute [local go_sem] Oper.semAt_some run_store_func

set_option maxRecDepth 100000 in
set_option maxHeartbeats 4000000 in
theorem Apply_none (sv : Value) (s : List UInt8) (z : Int) (b : UInt8) (h0 : 0 < s.length) (hl : s.length ≤ 1000) (w : World) (hS : Sl eB w.heap.size w sv s) :
    Calls Tryd.prog 22 #[sv, eD 0 z b] w fun e w' => ∃ v, e = .returned v ∧ Sl eB w'.heap.size w' v s ∧ Below w.heap.size w w' := by
  obtain ⟨i0, hi, hz0, hz1, hz2⟩ := info_parts info_u8
  obtain ⟨A, c, rfl⟩ := hS.len
  have hcl : (eD 0 z b).cells = cD 0 z b := rfl
  have hr := Rowed.new w 40 (cD 0 z b)
  have hA := below_alloc w (.cells (cD 0 z b) 40)
  have hS0 := hS.below hA
  have hlt := hr.lt
  have hne0 : ((s.length : Int) == 0) = false := by rw [beq_eq_false_iff_ne]; omega
  have Hl := Lib.hid hl
  clear hl h0
  go_enter Tryd.func22, Tryd.ntmps22
  go_upto_region 1 with fail
  generalize w.alloc (.cells (cD 0 z b) 40) = w0 at *
  have hrow := row_made w0
  have hA1 := hA.alloc hA.size (.cells #[] 5)
  have hS1 : Sl eB w.heap.size (w0.alloc (.cells #[] 5)) (.slice A s.length c) s := hS0.below ((Below.refl _ w0).alloc hA.size _)
  have hr1 := hr.alloc (.cells #[] 5)
  have hlt1 := hr1.lt
  go_wp2_with
    (at_builtin
     refine wpList_append_sl _ rfl (.tmp 8) (.tmp 9) _ rfl w0.heap.size 5 i0 (.int .u8 0) 1 Tryd.underlying22 hi hz0 hz1 hz2 rfl _ 0 [] hrow rfl w.heap.size _ s hS1 rfl (fun _ => rfl) (by have := Hl.out; unfold maxLen; omega) (by have := Hl.out; omega) (by simp) ?_
     intro v1 w1 hown1 hg1 hat1
     have hr2 : Rowed w1 w.heap.size 40 (cD 0 z b) := (hg1.block _ hlt1 (by simp [Value.ownBlock]; omega)).trans hr1
     have k0 := hr2.cell 0
     have k1 := hr2.cell 1)
  go_ret
  exact ⟨_, rfl, Sl.of_own (n := s.length) (by simpa using hown1), hA1.trans (below_grown hrow hg1 hA1.size (by have := hA.size; omega))⟩

/-- One edit from a word. -/
def OneE (s y : List UInt8) : Prop :=
  y = s ∨ (∃ p b, p < s.length ∧ codeOf b.toNat ≠ -1 ∧ y = s.set p b) ∨ (∃ p, p < s.length ∧ y = delW s p) ∨ ∃ p b, p ≤ s.length ∧ codeOf b.toNat ≠ -1 ∧ y = insW s p b
theorem Apply_ed (s : List UInt8) (d : Ed) (hd : d.Ok) (h0 : 0 < s.length) (hl : s.length ≤ 100) :
    ∃ y, OneE s y ∧ ∀ sv w, Sl eB w.heap.size w sv s → Calls Tryd.prog 22 #[sv, eD d.k d.z d.b] w fun e w' => ∃ v, e = .returned v ∧ Sl eB w'.heap.size w' v y ∧ Below w.heap.size w w' := by
  obtain ⟨k, z, b⟩ := d
  obtain ⟨hk, hb⟩ := hd
  simp only at hk hb
  rcases hk with rfl | rfl | rfl | rfl
  · exact ⟨s, .inl rfl, fun sv w h => Apply_none sv s z b h0 (by omega) w h⟩
  · obtain ⟨p, hp, hat⟩ := at_is z s.length h0 (by omega)
    exact ⟨delW s p, .inr (.inr (.inl ⟨p, hp, rfl⟩)), fun sv w h => Apply_gap sv s z b p h0 (by omega) hp hat w h⟩
  · obtain ⟨p, hp, hat⟩ := at_is z (s.length + 1) (by omega) (by omega)
    exact ⟨insW s p b, .inr (.inr (.inr ⟨p, b, by omega, by omega, rfl⟩)), fun sv w h => Apply_more sv s z b p h0 (by omega) (by omega) hat w h⟩
  · obtain ⟨p, hp, hat⟩ := at_is z s.length h0 (by omega)
    exact ⟨s.set p b, .inr (.inl ⟨p, b, hp, by omega, rfl⟩), fun sv w h => Apply_swap sv s z b p h0 (by omega) hp hat w h⟩
end Go.Proofs.YtheealkoooiloaaDoor
