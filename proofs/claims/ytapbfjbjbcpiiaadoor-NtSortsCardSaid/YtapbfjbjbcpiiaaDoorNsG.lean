/- Contracts over rows of rows: helixlaw01.great, helixref01.Rows, helixlaw01.both, bytes.Clone (each of its own). -/
import Derived.Test.YtapbfjbjbcpiiaaDoorNsF
import Derived.Test.YtapbfjbjbcpiiaaDoorRB
namespace Go.Proofs.YtapbfjbjbcpiiaaDoor
open Go.RowKit Go.Shelf
attribute [local go_sem] Oper.semAt_some

/-- Whether rows are too many, or one too long. -/
def grG (rows : List RowC) : Bool := decide (60 < rows.length) || rows.any fun p => decide (400 < p.bs.length)
theorem grG_no {rows : List RowC} (h : grG rows = false) : rows.length ≤ 60 ∧ ∀ p ∈ rows, p.bs.length ≤ 400 := by
  unfold grG at h
  rw [Bool.or_eq_false_iff] at h
  refine ⟨by have := of_decide_eq_false h.1; omega, fun p hp => ?_⟩
  have := List.any_eq_false.1 h.2 p hp
  simp at this
  omega
theorem grG_long {rows : List RowC} {p : RowC} (hp : p ∈ rows) (h : 400 < p.bs.length) : grG rows = true := by
  unfold grG
  rw [Bool.or_eq_true]
  exact .inr (List.any_eq_true.2 ⟨p, hp, decide_eq_true h⟩)
theorem grG_many {rows : List RowC} (h : 60 < rows.length) : grG rows = true := by
  unfold grG
  rw [Bool.or_eq_true]
  exact .inl (decide_eq_true h)
theorem grG_else {rows : List RowC} (h : ∀ p ∈ rows, p.bs.length ≤ 400) : grG rows = decide ((60 : Int) < (rows.length : Int)) := by
  have e : rows.any (fun p => decide (400 < p.bs.length)) = false := List.any_eq_false.2 fun p hp => by have := h p hp; simp; omega
  unfold grG
  rw [e, Bool.or_false]
  exact decide_eq_decide.2 (by omega)
set_option maxRecDepth 100000 in
set_option maxHeartbeats 1000000 in
theorem great_any (v : Value) (rows : List RowC) (w : World) (h : RowsIn w v rows) :
    Calls Tryd.prog 8 #[v] w fun e w' => e = .returned (.bool (grG rows)) ∧ w = w' := by
  obtain ⟨⟨A, c, rfl, -, hcs⟩, hR⟩ := h
  go_enter Tryd.func8, Tryd.ntmps8
  go_wp2_with fail
  go_loopw [3] (fun t wr => ∃ k : Nat, k ≤ rows.length ∧ k ≤ 61 ∧ t = .int .i64 k ∧ wr = w ∧ ∀ j (hj : j < rows.length), j < k → rows[j].bs.length ≤ 400) (fun t _ => 61 - (intOf t).toNat)
  case atStart => exact ⟨0, Nat.zero_le _, by omega, rfl, rfl, fun j _ h => absurd h (by omega)⟩
  case round =>
    obtain ⟨k, hk, hk6, rfl, rfl, hL⟩ := hrel
    by_cases hlt : k < rows.length
    · by_cases h6 : k ≤ 60
      · obtain ⟨b, off, rfl, -, hcell⟩ := hcs (by omega)
        have hc := hcell k rows[k] (List.getElem?_eq_getElem hlt)
        have HL : Hid (rows[k].bs.length ≤ 400 → ∀ j (hj : j < rows.length), j < k + 1 → rows[j].bs.length ≤ 400) := Lib.hid fun h j hj hjk => by
          by_cases he : j = k
          · subst he; exact h
          · exact hL j hj (by omega)
        have HG : Hid (400 < rows[k].bs.length → grG rows = true) := Lib.hid fun h => grG_long (List.getElem_mem hlt) h
        generalize rows[k] = p at hc HL HG
        obtain ⟨A2, c2, bs⟩ := p
        change wr.cell? _ = some (.slice A2 bs.length c2) at hc
        have h3 : (k : Int) < (rows.length : Int) := by omega
        have h4 : (k : Int) ≤ 60 := by omega
        have hlt' := Lib.hid hlt
        clear hcell hcs hL hR hlt hk
        by_cases h5 : 400 < bs.length
        · have d5 : decide ((400 : Int) < (bs.length : Int)) = true := by simp; omega
          have hg := Lib.hid (HG.out h5)
          clear HL HG
          go_wp2_with fail
          go_ret
          exact ⟨by rw [hg.out]; rfl, rfl⟩
        · have d5 : decide ((400 : Int) < (bs.length : Int)) = false := by simp; omega
          have HM := Lib.hid (HL.out (by show bs.length ≤ 400; omega))
          clear HL HG
          go_wp2_with fail
          go_roundw
          case rel => exact ⟨k + 1, hlt'.out, by omega, by go_num, trivial, HM.out⟩
          case measure => simp [intOf]; omega
      · have h3 : (k : Int) < (rows.length : Int) := by omega
        have h4 : ¬ (k : Int) ≤ 60 := by omega
        have d5 : decide ((60 : Int) < (rows.length : Int)) = true := by simp; omega
        have hg := Lib.hid (grG_many (rows := rows) (by omega))
        clear hcs hR hL
        go_wp2_with fail
        go_ret
        exact ⟨by rw [hg.out]; rfl, rfl⟩
    · obtain rfl : k = rows.length := by omega
      have h3 : ¬ (rows.length : Int) < (rows.length : Int) := by omega
      have h4 : ¬ rows.length < rows.length := by omega
      have hg := grG_else (rows := rows) fun p hp => by
        obtain ⟨j, hj, rfl⟩ := List.getElem_of_mem hp
        exact hL j hj hj
      have Hg := Lib.hid hg
      clear hlt hk hL hcs hR hk6 hg
      go_wp2_with fail
      go_ret
      exact ⟨by rw [Hg.out]; rfl, rfl⟩
end Go.Proofs.YtapbfjbjbcpiiaaDoor
