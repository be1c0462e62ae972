/- Contracts: helixref01.Rows of the same rows; helixlaw01.both and bytes.Clone as own rows. -/
import Derived.Test.YtapbfjbjbcpiiaaDoorNsG
namespace Go.Proofs.YtapbfjbjbcpiiaaDoor
open Go.RowKit Go.Shelf
attribute [local go_sem] Oper.semAt_some

theorem below_drewN' (B : Nat) (w : World) (n : Nat) : Below B w (w.drewN n) := ⟨rfl, rfl, rfl, Nat.le_refl _, fun _ _ => rfl⟩
theorem str_n {w wr : World} {sv : Value} {x : List UInt8} (h : Sl eB w.heap.size w sv x) (hb : Below w.heap.size w wr) (n : Nat) : (convert 25 9 sv).run Tryd.prog (wr.drewN n) = .ok (.string ⟨x.toArray⟩) (wr.drewN n) :=
  run_str (P := Tryd.prog) (h.below (hb.trans (below_drewN' _ _ _))) 25 9 5 Tryd.underlying25 Tryd.underlying5 Tryd.underlying9
set_option maxRecDepth 100000 in
set_option maxHeartbeats 1000000 in
theorem Rows_same (v u : Value) (ra rb : List RowC) (w : World) (ha : RowsIn w v ra) (hb : RowsIn w u rb) (hs : ra.map (·.bs) = rb.map (·.bs)) (hl : ra.length ≤ 60) :
    Calls Tryd.prog 12 #[v, u] w fun e w' => e = .returned (.bool true) ∧ Below w.heap.size w w' := by
  obtain ⟨A, c, rfl, hA⟩ := ha.some
  obtain ⟨B, d, rfl, hB⟩ := hb.some
  have hlen : ra.length = rb.length := by have := congrArg List.length hs; simpa using this
  have hne : ((ra.length : Int) != (rb.length : Int)) = false := by rw [hlen]; simp
  have HL := Lib.hid hlen
  go_enter Tryd.func12, Tryd.ntmps12
  clear hlen
  go_wp2_with fail
  go_loopw [5] (fun t wr => ∃ k : Nat, k ≤ ra.length ∧ t = .int .i64 k ∧ Below w.heap.size w wr) (fun t _ => ra.length - (intOf t).toNat)
  case atStart => exact ⟨0, Nat.zero_le _, rfl, Below.refl _ _⟩
  case round =>
    obtain ⟨k, hk, rfl, hBr⟩ := hrel
    by_cases hlt : k < ra.length
    · obtain ⟨b1, o1, rfl, l1⟩ := hA (by omega)
      obtain ⟨b2, o2, rfl, l2⟩ := hB (by have := HL.out; omega)
      obtain ⟨q1, s1⟩ := ha.at k hlt
      obtain ⟨q2, s2⟩ := hb.at k (by have := HL.out; omega)
      have he : ra[k].bs = (rb[k]'(by have := HL.out; omega)).bs := by
        have := congrArg (·[k]?) hs
        simpa [hlt, (show k < rb.length by have := HL.out; omega)] using this
      rw [← he] at q2 s2
      have r1 := (hBr.cell (p := ⟨b1, o1 + k, none⟩) l1).trans q1
      have r2 := (hBr.cell (p := ⟨b2, o2 + k, none⟩) l2).trans q2
      have t1 := str_n s1 hBr
      have t2 := str_n s2 hBr
      generalize ra[k].bs = x at *
      generalize ra[k].A = A1 at *
      generalize ra[k].c = c1 at *
      generalize (rb[k]'(by have := HL.out; omega)).A = A2 at *
      generalize (rb[k]'(by have := HL.out; omega)).c = c2 at *
      have h3 : (k : Int) < (ra.length : Int) := by omega
      have h4 : (k : Int) < (rb.length : Int) := by have := HL.out; omega
      have h5 : k < rb.length := by have := HL.out; omega
      have hlt' := Lib.hid hlt
      have hk9 : k ≤ 60 := by omega
      clear ha hb hA hB hs he s1 s2 q1 q2 hlt hk
      go_wp2_with fail
      go_quiet (fail)
      go_wp2_with fail
      go_roundw
      case rel => exact ⟨k + 1, hlt'.out, by go_num, hBr.trans (below_drewN' _ _ _)⟩
      case measure => have := hlt'.out; simp [intOf]; omega
    · obtain rfl : k = ra.length := by omega
      have h3 : ¬ (ra.length : Int) < (ra.length : Int) := by omega
      have h4 : ¬ ra.length < ra.length := by omega
      clear hlt hk ha hb hA hB hs
      go_wp2_with fail
      go_ret
      exact ⟨rfl, hBr⟩
/-- A row of bytes of the call's own. -/
def OwnB (B : Nat) (W : World) (v : Value) (bs : List UInt8) : Prop := Sl eB W.heap.size W v bs ∧ ∀ g, v.ownBlock = some g → B ≤ g ∧ g < W.heap.size
theorem own_b {B : Nat} {W : World} {v : Value} {n : Nat} {bs : List UInt8} (h : W.ownsRow B 5 1 v n (bs.map eB)) (_hn : bs.length = n) : OwnB B W v bs := by
  refine ⟨Sl.of_own (n := n) h, fun g hg => ?_⟩
  rcases h.2 with ⟨rfl, _⟩ | ⟨g', cap, cur, rfl, hb, hr, _⟩
  · cases hg
  · cases hg
    exact ⟨hb, (Array.getElem?_eq_some_iff.1 hr).1⟩
set_option maxRecDepth 100000 in
set_option maxHeartbeats 400000 in
theorem both_own (sa : Value) (a : List UInt8) (hreach : a.length ≤ 140737488355328) (w : World) (ha : Sl eB w.heap.size w sa a) :
    Calls Tryd.prog 10 #[sa, .slice none 0 0] w fun e w' => ∃ v, e = .returned v ∧ OwnB w.heap.size w' v a ∧ Below w.heap.size w w' := by
  obtain ⟨i0, hi, hz0, hz1, hz2⟩ := info_parts info_u8
  have hb : Sl eB w.heap.size w (.slice none 0 0) [] := Sl.nil _ _ _
  have hrow := row_made w
  have hB1 : Below w.heap.size w (w.alloc (.cells #[] 5)) := (Below.refl _ _).alloc (Nat.le_refl _) _
  go_enter Tryd.func10, Tryd.ntmps10
  go_wp2_with (first
    | (at_builtin
       refine wpList_append_sl _ rfl (.tmp 5) (.tmp 6) _ rfl w.heap.size 5 i0 (.int .u8 0) 1 Tryd.underlying25 hi hz0 hz1 hz2 rfl _ 0 [] hrow rfl w.heap.size sa a (ha.below hB1) rfl (fun _ => rfl) (by unfold maxLen; omega) (by omega) (by simp) ?_
       intro v1 w1 hown1 hg1 hat1
       have hB2 : Below w.heap.size w w1 := hB1.trans (below_grown hrow hg1 (by simp) (Nat.le_refl _)))
    | (at_builtin
       refine wpList_append_sl _ rfl (.tmp 7) (.tmp 8) _ rfl w.heap.size 5 i0 (.int .u8 0) 1 Tryd.underlying25 hi hz0 hz1 hz2 rfl _ _ _ hown1 rfl w.heap.size _ [] (hb.below hB2) rfl (fun _ => rfl) (by unfold maxLen; simp; omega) (by simp; omega) hB2.size ?_
       intro v2 w2 hown2 hg2 hat2))
  go_ret
  exact ⟨v2, rfl, own_b (n := a.length) (by simpa using hown2) rfl, hB2.trans (below_grown hown1 hg2 hB2.size (Nat.le_refl _))⟩
set_option maxRecDepth 100000 in
set_option maxHeartbeats 400000 in
theorem Clone_own (sv : Value) (a : List UInt8) (hreach : a.length ≤ 140737488355328) (w : World) (ha : Sl eB w.heap.size w sv a) :
    Calls Tryd.prog 30 #[sv] w fun e w' => ∃ v, e = .returned v ∧ OwnB w.heap.size w' v a ∧ Below w.heap.size w w' := by
  obtain ⟨i0, hi, hz0, hz1, hz2⟩ := info_parts info_u8
  have hrow := row_made w
  have hB1 : Below w.heap.size w (w.alloc (.cells #[] 5)) := (Below.refl _ _).alloc (Nat.le_refl _) _
  obtain ⟨A, c, rfl⟩ := ha.len
  cases A with
  | none =>
    have hx : a = [] := by
      obtain ⟨A, c', e, _, hcells⟩ := ha
      cases e
      cases a with
      | nil => rfl
      | cons x xs => obtain ⟨_, _, h, _⟩ := hcells (by simp); cases h
    subst hx
    have hq : ∀ w, (binOp .eql 25 (.slice none 0 c) (.slice none 0 0)).run Tryd.prog w = .ok (.bool true) w := fun w => Lib.run_eql_slice_nil w 25 5 none 0 c 0 0 Tryd.underlying25
    go_enter Tryd.func30, Tryd.ntmps30
    go_wp2
    go_ret
    exact ⟨_, rfl, ⟨Sl.nil _ _ _, fun g hg => by cases hg⟩, Below.refl _ _⟩
  | some ad =>
    have hq : ∀ w, (binOp .eql 25 (.slice (some ad) a.length c) (.slice none 0 0)).run Tryd.prog w = .ok (.bool false) w := fun w => Lib.run_eql_slice_nil w 25 5 (some ad) a.length c 0 0 Tryd.underlying25
    go_enter Tryd.func30, Tryd.ntmps30
    go_wp2_with
      (at_builtin
       refine wpList_append_sl _ rfl (.tmp 5) (.tmp 6) _ rfl w.heap.size 5 i0 (.int .u8 0) 1 Tryd.underlying25 hi hz0 hz1 hz2 rfl _ 0 [] hrow rfl w.heap.size (.slice (some ad) a.length c) a (ha.below hB1) rfl (fun _ => rfl) (by unfold maxLen; omega) (by omega) (by simp) ?_
       intro v1 w1 hown1 hg1 hat1
       have hB2 : Below w.heap.size w w1 := hB1.trans (below_grown hrow hg1 (by simp) (Nat.le_refl _)))
    go_ret
    exact ⟨v1, rfl, own_b (n := a.length) (by simpa using hown1) rfl, hB2⟩
end Go.Proofs.YtapbfjbjbcpiiaaDoor
