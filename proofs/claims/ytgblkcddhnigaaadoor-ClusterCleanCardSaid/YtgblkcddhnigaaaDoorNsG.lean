/- Contracts over rows of rows: helixlaw01.great, helixref01.Rows, helixlaw01.both, bytes.Clone (each of its own). -/
import Derived.Test.YtgblkcddhnigaaaDoorNsF
import Derived.Test.YtgblkcddhnigaaaDoorRB
namespace Go.Proofs.YtgblkcddhnigaaaDoor
open Go.RowKit Go.Shelf
attribute [local go_sem] Oper.semAt_some

/-- Whether rows are too many, or one too long. -/
def grG (rows : List RowC) : Bool := decide (60 < rows.length) || rows.any fun p => decide (400 < p.bs.length)
theorem grG_no {rows : List RowC} (h : grG rows = false) : rows.length ≤ 60 ∧ ∀ p ∈ rows, p.bs.length ≤ 400 := by
  unfold grG at h
  rw [Bool.or_eq_false_iff] at h
  refine ⟨by have := of_decide_eq_false h.1; omega, fun p hp => ?_⟩
  have := List.any_eq_false.1 h.2 p hp
  simp at this
  omega
theorem grG_long {rows : List RowC} {p : RowC} (hp : p ∈ rows) (h : 400 < p.bs.length) : grG rows = true := by
  unfold grG
  rw [Bool.or_eq_true]
  exact .inr (List.any_eq_true.2 ⟨p, hp, decide_eq_true h⟩)
theorem grG_many {rows : List RowC} (h : 60 < rows.length) : grG rows = true := by
  unfold grG
  rw [Bool.or_eq_true]
  exact .inl (decide_eq_true h)
theorem grG_else {rows : List RowC} (h : ∀ p ∈ rows, p.bs.length ≤ 400) : grG rows = decide ((60 : Int) < (rows.length : Int)) := by
  have e : rows.any (fun p => decide (400 < p.bs.length)) = false := List.any_eq_false.2 fun p hp => by have := h p hp; simp; omega
  unfold grG
  rw [e, Bool.or_false]
  exact decide_eq_decide.2 (by omega)
end Go.Proofs.YtgblkcddhnigaaaDoor
