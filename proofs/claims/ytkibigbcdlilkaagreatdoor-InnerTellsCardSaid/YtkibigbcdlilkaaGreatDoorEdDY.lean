import Derived.LoopN
import Derived.Test.YtkibigbcdlilkaaGreatDoorClBY
import Derived.Test.YtkibigbcdlilkaaGreatDoorZ0Y
namespace Go.Proofs.YtkibigbcdlilkaaGreatDoor.Ed
open Go.RowKit Go.Shelf
attribute [local go_sem] Oper.semAt_some run_store_func
set_option maxRecDepth 100000 in
set_option maxHeartbeats 400000 in
theorem BClone_any (sv : Value) (a : List UInt8) (hreach : a.length ≤ 140737488355328) (w : World) (ha : Sl eB w.heap.size w sv a) :
    Calls Tryz.prog 25 #[sv] w fun e w' => ∃ v, e = .returned v ∧ Own8 w.heap.size w' v a ∧ Below w.heap.size w w' := by
  obtain ⟨i0, hi, hz0, hz1, hz2⟩ := info_parts info_u8
  have hrow := row_made w
  have hB1 : Below w.heap.size w (w.alloc (.cells #[] 5)) := (Below.refl _ _).alloc (Nat.le_refl _) _
  obtain ⟨A, c, rfl⟩ := ha.len
  cases A with
  | none =>
    have hx : a = [] := by
     obtain ⟨A, c', e, _, hcells⟩ := ha
     cases e
     cases a with
     | nil => rfl
     | cons x xs => obtain ⟨_, _, h, _⟩ := hcells (by simp); cases h
    subst hx
    have hq : ∀ w, (binOp .eql 22 (.slice none 0 c) (.slice none 0 0)).run Tryz.prog w = .ok (.bool true) w := fun w => Lib.run_eql_slice_nil w 22 5 none 0 c 0 0 Tryz.underlying22
    go_enter Tryz.func25, Tryz.ntmps25
    go_wp2
    go_ret
    exact ⟨_, rfl, ⟨rfl, .inl ⟨rfl, rfl⟩⟩, Below.refl _ _⟩
  | some ad =>
    have hq : ∀ w, (binOp .eql 22 (.slice (some ad) a.length c) (.slice none 0 0)).run Tryz.prog w = .ok (.bool false) w := fun w => Lib.run_eql_slice_nil w 22 5 (some ad) a.length c 0 0 Tryz.underlying22
    go_enter Tryz.func25, Tryz.ntmps25
    go_wp2_with
      (at_builtin
       refine wpList_append_sl _ rfl (.tmp 5) (.tmp 6) _ rfl w.heap.size 5 i0 (.int .u8 0) 1 Tryz.underlying22 hi hz0 hz1 hz2 rfl _ 0 [] hrow rfl w.heap.size (.slice (some ad) a.length c) a (ha.below hB1) rfl (fun _ => rfl) (by unfold maxLen; omega) (by omega) (by simp) ?_
       intro v1 w1 hown1 hg1 hat1
       have hB2 : Below w.heap.size w w1 := hB1.trans (below_grown hrow hg1 (by simp) (Nat.le_refl _)))
    go_ret
    exact ⟨v1, rfl, by simpa [Own8] using hown1, hB2⟩
theorem owns_none {W : World} {B : Nat} {e : TypeId} {A : Option Addr} {l c : Nat} {xs : List Value} (h : W.ownsRow B e 1 (.slice A l c) l xs) : W.ownsRow B e 1 (.slice A 0 c) 0 [] := by
 rcases h.2 with ⟨e1, h0⟩ | ⟨g, cap, cur, e1, h1, h2, h3, h4, h5, h6⟩
 · cases e1; exact ⟨rfl, .inl ⟨rfl, rfl⟩⟩
 · cases e1; exact ⟨rfl, .inr ⟨g, c, cur, rfl, h1, h2, Nat.zero_le _, h4, h5, by simp⟩⟩
set_option maxRecDepth 100000 in
set_option maxHeartbeats 2000000 in
theorem Grow_any (n : Nat) (hn : n ≤ 1000) (w : World) :
    Calls Tryz.prog 79 #[.slice none 0 0, .int .i64 n] w fun e w' => ∃ v, e = .returned v ∧ w'.ownsRow w.heap.size 5 1 v 0 [] ∧ Below w.heap.size w w' := by
  obtain ⟨i0, hi, hz0, hz1, hz2⟩ := info_parts info_u8
  have d0 : decide ((n : Int) < 0) = false := decide_eq_false (by omega)
  by_cases h0 : n = 0
  · have d1 : decide (0 < (n : Int)) = false := decide_eq_false (by omega)
    have d2 : ¬ 0 < n := by omega
    clear h0
    go_enter Tryz.func79, Tryz.ntmps79
    go_wp2
    go_ret
    exact ⟨_, rfl, ⟨rfl, .inl ⟨rfl, rfl⟩⟩, Below.refl _ _⟩
  · have d1 : decide (0 < (n : Int)) = true := decide_eq_true (by omega)
    have hrow : w.ownsRow w.heap.size 5 1 (.slice none 0 0) 0 [] := ⟨rfl, .inl ⟨rfl, rfl⟩⟩
    have d2 : 0 < n := by omega
    clear h0
    go_enter Tryz.func79, Tryz.ntmps79
    go_wp2_with
      (at_builtin
       refine wpList_append_zeros _ rfl (.tmp 20) (.tmp 21) 22 3 9 rfl w.heap.size 5 i0 Tryz.underlying22 Tryz.underlying3 Tryz.underlying9 hi hz0 hz1 hz2 _ _ _ hrow rfl n rfl (by omega) (Nat.le_refl _) ?_
       intro vl wl hown2 hg2
       have hB3 : Below w.heap.size w wl := below_grown hrow hg2 (Nat.le_refl _) (Nat.le_refl _)
       obtain ⟨Al, cl, rfl⟩ := (show ∃ A c, vl = .slice A (0 + n) c from by
        rcases hown2.2 with ⟨e1, h0⟩ | ⟨g, cap, cur, e1, h1, h2, h3, h4, h5, h6⟩
        · exact ⟨none, 0, by rw [e1, h0]⟩
        · exact ⟨_, _, e1⟩))
    go_ret
    rw [Nat.zero_add] at hown2
    exact ⟨_, rfl, owns_none hown2, hB3⟩
theorem owns_slice {W : World} {B : Nat} {e : TypeId} {v : Value} {n : Nat} {xs : List Value} (h : W.ownsRow B e 1 v n xs) : ∃ A c, v = .slice A n c := by
 rcases h.2 with ⟨e1, h0⟩ | ⟨g, cap, cur, e1, _⟩
 · exact ⟨none, 0, by rw [e1, h0]⟩
 · exact ⟨_, _, e1⟩
set_option maxRecDepth 100000 in
set_option maxHeartbeats 4000000 in
theorem Concat2_any (b : Nat) (A0 A1 : Option Addr) (c0 c1 : Nat) (p q : List UInt8) (hp : p.length ≤ 400) (hq : q.length ≤ 400) (w : World) (h0 : w.cell? ⟨b, 0, none⟩ = some (.slice A0 p.length c0)) (h1 : w.cell? ⟨b, 1, none⟩ = some (.slice A1 q.length c1))
    (hP : Sl eB w.heap.size w (.slice A0 p.length c0) p) (hQ : Sl eB w.heap.size w (.slice A1 q.length c1) q) (hb : b < w.heap.size) :
    Calls Tryz.prog 52 #[.slice (some ⟨b, 0, none⟩) 2 2] w fun e w' => ∃ v, e = .returned v ∧ Own8 w.heap.size w' v (p ++ q) ∧ Below w.heap.size w w' := by
 obtain ⟨i0, hi, hz0, hz1, hz2⟩ := info_parts info_u8
 have e1 : IntKind.i64.wrap ((p.length : Int) + (q.length : Int)) = ((p.length + q.length : Nat) : Int) := by rw [IntWalk.i64_in _ (by omega)]; omega
 have d1 : decide ((p.length : Int) < 0) = false := decide_eq_false (by omega)
 have d2 : decide (((p.length + q.length : Nat) : Int) < 0) = false := decide_eq_false (by omega)
 have hgr := Grow_any (p.length + q.length) (by omega) w
 rw [Int.natCast_add] at hgr e1 d2
 have hx2 : p.length + q.length ≤ 800 := by omega
 go_enter Tryz.func52, Tryz.ntmps52
 go_wp2_with fail
 refine wp_loop_rounds 3 ?_
 unfold Code.rounds
 go_wp2_with fail
 unfold Code.rounds
 go_wp2_with fail
 unfold Code.rounds
 go_wp2_with fail
 go_at_call 79
 refine hgr.mono ?_
 rintro e w1 ⟨v1, rfl, hv1, hB1⟩
 have k0 := (hB1.cell (p := ⟨b, 0, none⟩) hb).trans h0
 have hP1 := hP.next hB1
 have hQ1 := hQ.below hB1
 obtain ⟨Av, cv, rfl⟩ := owns_slice hv1
 clear hgr e1 d1 d2
 go_wp2_with fail
 refine wp_loop_rounds 3 ?_
 unfold Code.rounds
 go_wp2_with
   (at_builtin
    refine wpList_append_sl _ rfl (.tmp 31) (.tmp 32) _ rfl w.heap.size 5 i0 (.int .u8 0) 1 Tryz.underlying22 hi hz0 hz1 hz2 rfl _ 0 [] hv1 rfl w1.heap.size (.slice A0 p.length c0) p hP1 rfl (fun _ => rfl) (by unfold maxLen; omega) (by omega) hB1.size ?_
    intro v2 w2 hown2 hg2 hat2
    have hB2 : Below w.heap.size w w2 := hB1.trans (below_grown hv1 hg2 hB1.size (Nat.le_refl _))
    obtain ⟨Av2, cv2, rfl⟩ := owns_slice hown2)
 have k1 := (hB2.cell (p := ⟨b, 1, none⟩) hb).trans h1
 have hQ2 := hQ.below hB2
 rw [Nat.zero_add, List.nil_append] at hown2
 unfold Code.rounds
 go_wp2_with
   (at_builtin
    refine wpList_append_sl _ rfl (.tmp 31) (.tmp 32) _ rfl w.heap.size 5 i0 (.int .u8 0) 1 Tryz.underlying22 hi hz0 hz1 hz2 rfl _ p.length (p.map eB) hown2 (by first | rfl | simp) w.heap.size (.slice A1 q.length c1) q hQ2 rfl (fun _ => rfl) (by unfold maxLen; omega) (by omega) hB2.size ?_
    intro v3 w3 hown3 hg3 hat3
    have hB3 : Below w.heap.size w w3 := hB2.trans (below_grown hown2 hg3 hB2.size (Nat.le_refl _))
    obtain ⟨Av3, cv3, rfl⟩ := owns_slice hown3)
 unfold Code.rounds
 go_wp2
 go_ret
 exact ⟨_, rfl, by unfold Own8; rw [List.length_append, List.map_append]; exact hown3, hB3⟩
set_option maxRecDepth 100000 in
set_option maxHeartbeats 4000000 in
theorem Concat3_any (b : Nat) (A0 A1 A2 : Option Addr) (c0 c1 c2 : Nat) (p q r : List UInt8) (hp : p.length ≤ 400) (hq : q.length ≤ 200) (hr : r.length ≤ 400) (w : World) (h0 : w.cell? ⟨b, 0, none⟩ = some (.slice A0 p.length c0)) (h1 : w.cell? ⟨b, 1, none⟩ = some (.slice A1 q.length c1)) (h2 : w.cell? ⟨b, 2, none⟩ = some (.slice A2 r.length c2))
    (hP : Sl eB w.heap.size w (.slice A0 p.length c0) p) (hQ : Sl eB w.heap.size w (.slice A1 q.length c1) q) (hR : Sl eB w.heap.size w (.slice A2 r.length c2) r) (hb : b < w.heap.size) :
    Calls Tryz.prog 52 #[.slice (some ⟨b, 0, none⟩) 3 3] w fun e w' => ∃ v, e = .returned v ∧ Own8 w.heap.size w' v (p ++ q ++ r) ∧ Below w.heap.size w w' := by
 obtain ⟨i0, hi, hz0, hz1, hz2⟩ := info_parts info_u8
 have e1 : IntKind.i64.wrap ((p.length : Int) + (q.length : Int)) = ((p.length + q.length : Nat) : Int) := by rw [IntWalk.i64_in _ (by omega)]; omega
 have d1 : decide ((p.length : Int) < 0) = false := decide_eq_false (by omega)
 have d2 : decide (((p.length + q.length : Nat) : Int) < 0) = false := decide_eq_false (by omega)
 have e3 : IntKind.i64.wrap ((p.length : Int) + (q.length : Int) + (r.length : Int)) = ((p.length + q.length + r.length : Nat) : Int) := by rw [IntWalk.i64_in _ (by omega)]; omega
 have d3 : decide (((p.length + q.length + r.length : Nat) : Int) < 0) = false := decide_eq_false (by omega)
 have hgr := Grow_any (p.length + q.length + r.length) (by omega) w
 rw [Int.natCast_add, Int.natCast_add] at hgr e3 d3
 rw [Int.natCast_add] at e1 d2
 have hx2 : p.length + q.length + r.length ≤ 1000 := by omega
 go_enter Tryz.func52, Tryz.ntmps52
 go_wp2_with fail
 refine wp_loop_rounds 4 ?_
 unfold Code.rounds
 go_wp2_with fail
 unfold Code.rounds
 go_wp2_with fail
 unfold Code.rounds
 go_wp2_with fail
 unfold Code.rounds
 go_wp2_with fail
 go_at_call 79
 refine hgr.mono ?_
 rintro e w1 ⟨v1, rfl, hv1, hB1⟩
 have k0 := (hB1.cell (p := ⟨b, 0, none⟩) hb).trans h0
 have hP1 := hP.next hB1
 have hQ1 := hQ.below hB1
 obtain ⟨Av, cv, rfl⟩ := owns_slice hv1
 have hR1 := hR.below hB1
 clear hgr e1 d1 d2 e3 d3
 go_wp2_with fail
 refine wp_loop_rounds 4 ?_
 unfold Code.rounds
 go_wp2_with
   (at_builtin
    refine wpList_append_sl _ rfl (.tmp 31) (.tmp 32) _ rfl w.heap.size 5 i0 (.int .u8 0) 1 Tryz.underlying22 hi hz0 hz1 hz2 rfl _ 0 [] hv1 rfl w1.heap.size (.slice A0 p.length c0) p hP1 rfl (fun _ => rfl) (by unfold maxLen; omega) (by omega) hB1.size ?_
    intro v2 w2 hown2 hg2 hat2
    have hB2 : Below w.heap.size w w2 := hB1.trans (below_grown hv1 hg2 hB1.size (Nat.le_refl _))
    obtain ⟨Av2, cv2, rfl⟩ := owns_slice hown2)
 have k1 := (hB2.cell (p := ⟨b, 1, none⟩) hb).trans h1
 have hQ2 := hQ.below hB2
 rw [Nat.zero_add, List.nil_append] at hown2
 unfold Code.rounds
 go_wp2_with
   (at_builtin
    refine wpList_append_sl _ rfl (.tmp 31) (.tmp 32) _ rfl w.heap.size 5 i0 (.int .u8 0) 1 Tryz.underlying22 hi hz0 hz1 hz2 rfl _ p.length (p.map eB) hown2 (by first | rfl | simp) w.heap.size (.slice A1 q.length c1) q hQ2 rfl (fun _ => rfl) (by unfold maxLen; omega) (by omega) hB2.size ?_
    intro v3 w3 hown3 hg3 hat3
    have hB3 : Below w.heap.size w w3 := hB2.trans (below_grown hown2 hg3 hB2.size (Nat.le_refl _))
    obtain ⟨Av3, cv3, rfl⟩ := owns_slice hown3)
 have k2 := (hB3.cell (p := ⟨b, 2, none⟩) hb).trans h2
 have hR3 := hR.below hB3
 rw [← List.map_append] at hown3
 unfold Code.rounds
 go_wp2_with
   (at_builtin
    refine wpList_append_sl _ rfl (.tmp 31) (.tmp 32) _ rfl w.heap.size 5 i0 (.int .u8 0) 1 Tryz.underlying22 hi hz0 hz1 hz2 rfl _ (p.length + q.length) ((p ++ q).map eB) hown3 (by first | rfl | simp) w.heap.size (.slice A2 r.length c2) r hR3 rfl (fun _ => rfl) (by unfold maxLen; omega) (by omega) hB3.size ?_
    intro v4 w4 hown4 hg4 hat4
    have hB4 : Below w.heap.size w w4 := hB3.trans (below_grown hown3 hg4 hB3.size (Nat.le_refl _))
    obtain ⟨Av4, cv4, rfl⟩ := owns_slice hown4)
 unfold Code.rounds
 go_wp2
 go_ret
 exact ⟨_, rfl, by unfold Own8; rw [← List.append_assoc, List.length_append, List.length_append, List.map_append]; exact hown4, hB4⟩
end Go.Proofs.YtkibigbcdlilkaaGreatDoor.Ed
