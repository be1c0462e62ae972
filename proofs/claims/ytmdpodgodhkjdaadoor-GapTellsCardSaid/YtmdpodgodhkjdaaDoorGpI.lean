/- Contract of slices.Insert of one byte behind the last. -/
import Derived.Test.YtmdpodgodhkjdaaDoorGpS
import Derived.Test.YtmdpodgodhkjdaaDoorGpD
namespace Go.Proofs.YtmdpodgodhkjdaaDoor
open Go.RowKit Go.Shelf
attribute [local go_sem] Oper.semAt_some run_store_func

theorem sl_cell {w : World} {g : Nat} {c : UInt8} (hg : g < w.heap.size) (h : w.cell? ⟨g, 0, none⟩ = some (eB c)) : Sl eB w.heap.size w (.slice (some ⟨g, 0, none⟩) 1 1) [c] :=
  ⟨some ⟨g, 0, none⟩, 1, rfl, Nat.le_refl _, fun _ => ⟨g, 0, rfl, hg, fun j x hx => by
    have hj : j = 0 := by
      have := (List.getElem?_eq_some_iff.1 hx).1
      simpa using this
    subst hj
    simp at hx
    subst hx
    exact h⟩⟩
/-- Inserting c at p into a row of one's own. -/
def InsIs (x : List UInt8) (p : Nat) (c : UInt8) : Prop :=
  ∀ (base : Nat) (v : Value) (b : Nat) (w : World), base ≤ w.heap.size → Own8 base w v x → Boxed w b 5 (eB c) → v.ownBlock ≠ some b →
    Calls Tryd.prog 60 #[v, .int .i64 p, .slice (some ⟨b, 0, none⟩) 1 1] w fun e w' => ∃ v', e = .returned v' ∧ Own8 base w' v' (insW x p c) ∧ Below base w w'
set_option maxRecDepth 100000 in
set_option maxHeartbeats 1000000 in
theorem insert_end (x : List UInt8) (c : UInt8) (h0 : 0 < x.length) (hreach : x.length ≤ 1000000) : InsIs x x.length c := by
  intro base v b w hbase hown hbx hap
  have hs := sl_cell hbx.lt hbx.cell
  obtain ⟨i0, hi, hz0, hz1, hz2⟩ := info_parts info_u8
  have hrow : w.ownsRow base 5 1 v x.length (x.map eB) := hown
  have hg := hown.2
  rcases hg with ⟨_, h⟩ | ⟨g, cap, cur, rfl, hbg, hg, hle, hcm, hcs, htk⟩
  · omega
  have hms : ¬ ((cap : Int) < x.length) := by omega
  have hi1 : (([c] : List UInt8).length : Int) = 1 := rfl
  have hins : insW x x.length c = x ++ [c] := by simp [insW]
  clear hcs htk hg hcm hap
  go_enter Tryd.func60, Tryd.ntmps60
  go_wp2_with
    (at_builtin
     refine wpList_append_sl _ rfl (.tmp 23) (.tmp 24) _ rfl base 5 i0 (.int .u8 0) 1 Tryd.underlying22 hi hz0 hz1 hz2 rfl _ x.length (x.map eB) hrow rfl w.heap.size _ [c] hs rfl (fun _ => rfl) (by unfold maxLen; simp; omega) (by simp; omega) hbase ?_
     intro v1 w1 hown1 hg1 hat1
     have hB2 : Below base w w1 := below_grown hrow hg1 hbase (Nat.le_refl _))
  all_goals
    go_ret
    exact ⟨v1, rfl, by simpa [Own8, insW] using hown1, hB2⟩
end Go.Proofs.YtmdpodgodhkjdaaDoor
