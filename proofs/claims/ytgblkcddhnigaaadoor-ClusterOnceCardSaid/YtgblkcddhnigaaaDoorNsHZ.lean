import Derived.Test.YtgblkcddhnigaaaDoorIVZ
import Derived.Test.YtgblkcddhnigaaaDoorNsFZ
namespace Go.Proofs.YtgblkcddhnigaaaDoor
open Go.RowKit Go.Shelf
attribute [local go_sem] Oper.semAt_some
theorem below_drewN' (B : Nat) (w : World) (n : Nat) : Below B w (w.drewN n) := ⟨rfl, rfl, rfl, Nat.le_refl _, fun _ _ => rfl⟩
theorem str_n {w wr : World} {sv : Value} {x : List UInt8} (h : Sl eB w.heap.size w sv x) (hb : Below w.heap.size w wr) (n : Nat) : (convert 34 9 sv).run Tryd.prog (wr.drewN n) = .ok (.string ⟨x.toArray⟩) (wr.drewN n) :=
 run_str (P := Tryd.prog) (h.below (hb.trans (below_drewN' _ _ _))) 34 9 5 Tryd.underlying34 Tryd.underlying5 Tryd.underlying9
def OwnB (B : Nat) (W : World) (v : Value) (bs : List UInt8) : Prop := Sl eB W.heap.size W v bs ∧ ∀ g, v.ownBlock = some g → B ≤ g ∧ g < W.heap.size
theorem own_b {B : Nat} {W : World} {v : Value} {n : Nat} {bs : List UInt8} (h : W.ownsRow B 5 1 v n (bs.map eB)) (_hn : bs.length = n) : OwnB B W v bs := by
 refine ⟨Sl.of_own (n := n) h, fun g hg => ?_⟩
 rcases h.2 with ⟨rfl, _⟩ | ⟨g', cap, cur, rfl, hb, hr, _⟩
 · cases hg
 · cases hg
   exact ⟨hb, (Array.getElem?_eq_some_iff.1 hr).1⟩
set_option maxRecDepth 100000 in
set_option maxHeartbeats 400000 in
theorem Clone_own (sv : Value) (a : List UInt8) (hreach : a.length ≤ 140737488355328) (w : World) (ha : Sl eB w.heap.size w sv a) :
    Calls Tryd.prog 29 #[sv] w fun e w' => ∃ v, e = .returned v ∧ OwnB w.heap.size w' v a ∧ Below w.heap.size w w' := by
  obtain ⟨i0, hi, hz0, hz1, hz2⟩ := info_parts info_u8
  have hrow := row_made w
  have hB1 : Below w.heap.size w (w.alloc (.cells #[] 5)) := (Below.refl _ _).alloc (Nat.le_refl _) _
  obtain ⟨A, c, rfl⟩ := ha.len
  cases A with
  | none =>
    have hx : a = [] := by
     obtain ⟨A, c', e, _, hcells⟩ := ha
     cases e
     cases a with
     | nil => rfl
     | cons x xs => obtain ⟨_, _, h, _⟩ := hcells (by simp); cases h
    subst hx
    have hq : ∀ w, (binOp .eql 34 (.slice none 0 c) (.slice none 0 0)).run Tryd.prog w = .ok (.bool true) w := fun w => Lib.run_eql_slice_nil w 34 5 none 0 c 0 0 Tryd.underlying34
    go_enter Tryd.func29, Tryd.ntmps29
    go_wp2
    go_ret
    exact ⟨_, rfl, ⟨Sl.nil _ _ _, fun g hg => by cases hg⟩, Below.refl _ _⟩
  | some ad =>
    have hq : ∀ w, (binOp .eql 34 (.slice (some ad) a.length c) (.slice none 0 0)).run Tryd.prog w = .ok (.bool false) w := fun w => Lib.run_eql_slice_nil w 34 5 (some ad) a.length c 0 0 Tryd.underlying34
    go_enter Tryd.func29, Tryd.ntmps29
    go_wp2_with
      (at_builtin
       refine wpList_append_sl _ rfl (.tmp 5) (.tmp 6) _ rfl w.heap.size 5 i0 (.int .u8 0) 1 Tryd.underlying34 hi hz0 hz1 hz2 rfl _ 0 [] hrow rfl w.heap.size (.slice (some ad) a.length c) a (ha.below hB1) rfl (fun _ => rfl) (by unfold maxLen; omega) (by omega) (by simp) ?_
       intro v1 w1 hown1 hg1 hat1
       have hB2 : Below w.heap.size w w1 := hB1.trans (below_grown hrow hg1 (by simp) (Nat.le_refl _)))
    go_ret
    exact ⟨v1, rfl, own_b (n := a.length) (by simpa using hown1) rfl, hB2⟩
end Go.Proofs.YtgblkcddhnigaaaDoor
