/- Of stage 1, without helixlaw01.row and nt.Text (they aren't in the seat of NtSorts):  Contracts of the law's own helpers same, both, row, and of nt.Gc, nt.Run, nt.Text, bytes.Clone. -/
import Derived.Test.YtgblkcddhnigaaaDoorNtB
namespace Go.Proofs.YtgblkcddhnigaaaDoor
open Go.RowKit Go.Shelf
attribute [local go_sem] Oper.semAt_some

theorem beq_dec (a b : List UInt8) : (a == b) = decide (a = b) := by by_cases h : a = b <;> simp [h]
theorem info_u8 : (Tryd.prog.info? 5).map (fun i => (i.zero, i.size, i.bytes)) = some (some (.int .u8 0), 1, 1) := by kernel_rfl

/-- How many letters are strong. -/
def gcOf (bs : List UInt8) : Nat := bs.countP fun b => b == 67 || b == 71
theorem gcOf_le (bs : List UInt8) : gcOf bs ≤ bs.length := List.countP_le_length
theorem gcOf_snoc (bs : List UInt8) (k : Nat) (h : k < bs.length) : gcOf (bs.take (k + 1)) = gcOf (bs.take k) + if bs[k] == 67 || bs[k] == 71 then 1 else 0 := by
  rw [List.take_succ_eq_append_getElem h, gcOf, gcOf, List.countP_append]
  simp [List.countP_cons]

/-- The longest run so far, and the one that goes on, behind k letters. -/
def runAt (bs : List UInt8) : Nat → Nat × Nat
  | 0 => (0, 0)
  | k + 1 => let r := if k = 0 ∨ bs[k]? ≠ bs[k - 1]? then 1 else (runAt bs k).2 + 1
             (max (runAt bs k).1 r, r)
theorem runAt_le (bs : List UInt8) : ∀ k, (runAt bs k).1 ≤ k ∧ (runAt bs k).2 ≤ k
  | 0 => by simp [runAt]
  | k + 1 => by
    have := runAt_le bs k
    simp only [runAt]
    split <;> omega
theorem runAt_succ_new (bs : List UInt8) (k : Nat) (h : k = 0 ∨ bs[k]? ≠ bs[k - 1]?) : runAt bs (k + 1) = (max (runAt bs k).1 1, 1) := by simp [runAt, h]
theorem runAt_succ_on (bs : List UInt8) (k : Nat) (h : ¬ (k = 0 ∨ bs[k]? ≠ bs[k - 1]?)) : runAt bs (k + 1) = (max (runAt bs k).1 ((runAt bs k).2 + 1), (runAt bs k).2 + 1) := by simp [runAt, h]

/-- What append makes of bytes, or of nothing. -/
theorem row_made (w : World) : (w.alloc (.cells #[] 5)).ownsRow w.heap.size 5 1 (.slice (some ⟨w.heap.size, 0, none⟩) 0 0) 0 [] :=
  World.ownsRow_made w #[] 0 (Nat.le_refl _) (by unfold maxLen; omega) rfl

set_option maxRecDepth 100000 in
set_option maxHeartbeats 400000 in
theorem Clone_any (sv : Value) (a : List UInt8) (hreach : a.length ≤ 140737488355328) (w : World) (ha : Sl eB w.heap.size w sv a) :
    Calls Tryd.prog 29 #[sv] w fun e w' => ∃ v, e = .returned v ∧ Sl eB w'.heap.size w' v a ∧ Below w.heap.size w w' := by
  obtain ⟨i0, hi, hz0, hz1, hz2⟩ := info_parts info_u8
  have hrow := row_made w
  have hB1 : Below w.heap.size w (w.alloc (.cells #[] 5)) := (Below.refl _ _).alloc (Nat.le_refl _) _
  obtain ⟨A, c, rfl⟩ := ha.len
  cases A with
  | none =>
    have hx : a = [] := by
      obtain ⟨A, c', e, _, hcells⟩ := ha
      cases e
      cases a with
      | nil => rfl
      | cons x xs => obtain ⟨_, _, h, _⟩ := hcells (by simp); cases h
    subst hx
    have hq : ∀ w, (binOp .eql 34 (.slice none 0 c) (.slice none 0 0)).run Tryd.prog w = .ok (.bool true) w := fun w => Lib.run_eql_slice_nil w 34 5 none 0 c 0 0 Tryd.underlying34
    go_enter Tryd.func29, Tryd.ntmps29
    go_wp2
    go_ret
    exact ⟨_, rfl, Sl.nil _ _ _, Below.refl _ _⟩
  | some ad =>
    have hq : ∀ w, (binOp .eql 34 (.slice (some ad) a.length c) (.slice none 0 0)).run Tryd.prog w = .ok (.bool false) w := fun w => Lib.run_eql_slice_nil w 34 5 (some ad) a.length c 0 0 Tryd.underlying34
    go_enter Tryd.func29, Tryd.ntmps29
    go_wp2_with
      (at_builtin
       refine wpList_append_sl _ rfl (.tmp 5) (.tmp 6) _ rfl w.heap.size 5 i0 (.int .u8 0) 1 Tryd.underlying34 hi hz0 hz1 hz2 rfl _ 0 [] hrow rfl w.heap.size (.slice (some ad) a.length c) a (ha.below hB1) rfl (fun _ => rfl) (by unfold maxLen; omega) (by omega) (by simp) ?_
       intro v1 w1 hown1 hg1 hat1
       have hB2 : Below w.heap.size w w1 := hB1.trans (below_grown hrow hg1 (by simp) (Nat.le_refl _)))
    go_ret
    exact ⟨v1, rfl, Sl.of_own (n := a.length) (by simpa using hown1), hB2⟩

end Go.Proofs.YtgblkcddhnigaaaDoor
