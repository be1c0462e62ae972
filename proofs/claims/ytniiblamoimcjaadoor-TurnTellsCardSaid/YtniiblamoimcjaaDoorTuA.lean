/- Contracts of nt.code, Code, Letter (any program that has the table of letters). -/
import Derived.Test.YtniiblamoimcjaaDoorRows
import Derived.Test.YtniiblamoimcjaaDoorL
namespace Go.Proofs.YtniiblamoimcjaaDoor
open Go.RowKit Go.Shelf
attribute [local go_sem] Oper.semAt_some

/-- The table of letters lies in memory. -/
def Tab (w : World) : Prop :=
  w.cell? ⟨0, 0, none⟩ = some (.int .u8 65) ∧ w.cell? ⟨0, 1, none⟩ = some (.int .u8 67) ∧ w.cell? ⟨0, 2, none⟩ = some (.int .u8 71) ∧ w.cell? ⟨0, 3, none⟩ = some (.int .u8 84)
theorem Tab.lt {w : World} (h : Tab w) : 0 < w.heap.size := World.block_lt_of_cell? w ⟨0, 0, none⟩ h.1
theorem Tab.below {w w' : World} (h : Tab w) (hb : Below w.heap.size w w') : Tab w' :=
  ⟨(hb.cell (p := ⟨0, 0, none⟩) h.lt).trans h.1, (hb.cell (p := ⟨0, 1, none⟩) h.lt).trans h.2.1, (hb.cell (p := ⟨0, 2, none⟩) h.lt).trans h.2.2.1, (hb.cell (p := ⟨0, 3, none⟩) h.lt).trans h.2.2.2⟩
theorem Tab.below' {B : Nat} {w w' : World} (h : Tab w) (hb : Below B w w') (hB : 0 < B) : Tab w' :=
  ⟨(hb.cell (p := ⟨0, 0, none⟩) hB).trans h.1, (hb.cell (p := ⟨0, 1, none⟩) hB).trans h.2.1, (hb.cell (p := ⟨0, 2, none⟩) hB).trans h.2.2.1, (hb.cell (p := ⟨0, 3, none⟩) hB).trans h.2.2.2⟩

/-- A byte's code; -1 of one that is no letter. -/
def codeOf (c : Nat) : Int := if c = 65 then 0 else if c = 67 then 1 else if c = 71 then 2 else if c = 84 then 3 else -1
/-- The letter of a number. -/
def letterOf (n : Int) : UInt8 := if n % 4 = 0 then 65 else if n % 4 = 1 then 67 else if n % 4 = 2 then 71 else 84
theorem codeOf_range (c : Nat) : -1 ≤ codeOf c ∧ codeOf c ≤ 3 := by
  unfold codeOf
  repeat' split
  all_goals omega
theorem letterOf_cell {w : World} (hT : Tab w) (n : Int) : w.cell? ⟨0, (n % 4).toNat, none⟩ = some (eB (letterOf n)) := by
  obtain ⟨h0, h1, h2, h3⟩ := hT
  unfold letterOf
  have hn : n % 4 = 0 ∨ n % 4 = 1 ∨ n % 4 = 2 ∨ n % 4 = 3 := by omega
  rcases hn with e | e | e | e <;> rw [e] <;> simp only [eB]
  · exact h0
  · exact h1
  · exact h2
  · exact h3

set_option maxRecDepth 100000 in
set_option maxHeartbeats 400000 in
theorem code_any (c : Nat) (w : World) (hT : Tab w) :
    Calls Tryd.prog 38 #[.int .u8 c] w fun e w' => e = .returned (.int .i64 (codeOf c)) ∧ w = w' := by
  obtain ⟨h0, h1, h2, h3⟩ := hT
  go_enter Tryd.func38, Tryd.ntmps38
  go_wp2
  have i0 : ∀ w, (Instr.index 50 (.agg #[.int .u8 65, .int .u8 67, .int .u8 71, .int .u8 84]) (.int .i64 0)).run Tryd.prog w = .ok (.int .u8 65) w := fun _ => by kernel_rfl
  have i1 : ∀ w, (Instr.index 50 (.agg #[.int .u8 65, .int .u8 67, .int .u8 71, .int .u8 84]) (.int .i64 1)).run Tryd.prog w = .ok (.int .u8 67) w := fun _ => by kernel_rfl
  have i2 : ∀ w, (Instr.index 50 (.agg #[.int .u8 65, .int .u8 67, .int .u8 71, .int .u8 84]) (.int .i64 2)).run Tryd.prog w = .ok (.int .u8 71) w := fun _ => by kernel_rfl
  have i3 : ∀ w, (Instr.index 50 (.agg #[.int .u8 65, .int .u8 67, .int .u8 71, .int .u8 84]) (.int .i64 3)).run Tryd.prog w = .ok (.int .u8 84) w := fun _ => by kernel_rfl
  refine wp_loop_rounds 5 ?_
  rw [rounds_succ]
  go_wp2
  · have h : ((65 : Int) == c) = true := by assumption
    go_ret
    exact ⟨by have : c = 65 := by have := beq_iff_eq.1 h; omega
              subst this; rfl, rfl⟩
  rw [rounds_succ]
  go_wp2
  · have h : ((67 : Int) == c) = true := by assumption
    go_ret
    exact ⟨by have : c = 67 := by have := beq_iff_eq.1 h; omega
              subst this; rfl, rfl⟩
  rw [rounds_succ]
  go_wp2
  · have h : ((71 : Int) == c) = true := by assumption
    go_ret
    exact ⟨by have : c = 71 := by have := beq_iff_eq.1 h; omega
              subst this; rfl, rfl⟩
  rw [rounds_succ]
  go_wp2
  · have h : ((84 : Int) == c) = true := by assumption
    go_ret
    exact ⟨by have : c = 84 := by have := beq_iff_eq.1 h; omega
              subst this; rfl, rfl⟩
  rw [rounds_succ]
  go_wp2
  have g0 : ((65 : Int) == c) = false := by assumption
  have g1 : ((67 : Int) == c) = false := by assumption
  have g2 : ((71 : Int) == c) = false := by assumption
  have g3 : ((84 : Int) == c) = false := by assumption
  go_ret
  refine ⟨?_, rfl⟩
  have e0 : ¬ c = 65 := fun e => by subst e; simp at g0
  have e1 : ¬ c = 67 := fun e => by subst e; simp at g1
  have e2 : ¬ c = 71 := fun e => by subst e; simp at g2
  have e3 : ¬ c = 84 := fun e => by subst e; simp at g3
  simp [codeOf, e0, e1, e2, e3]

set_option maxRecDepth 100000 in
set_option maxHeartbeats 400000 in
theorem letter_any (n : Int) (w : World) (hT : Tab w) :
    Calls Tryd.prog 37 #[.int .i64 n] w fun e w' => e = .returned (eB (letterOf n)) ∧ w = w' := by
  have hc := letterOf_cell hT n
  have hb := bits_and3 n
  have h0 : 0 ≤ n % 4 := by omega
  have h4 : n % 4 < 4 := by omega
  clear hT
  go_enter Tryd.func37, Tryd.ntmps37
  go_wp2
  go_ret
  exact ⟨rfl, rfl⟩

set_option maxRecDepth 100000 in
set_option maxHeartbeats 400000 in
theorem Code_yes (c : Nat) (w : World) (hT : Tab w) (h : codeOf c ≠ -1) :
    Calls Tryd.prog 32 #[.int .u8 c] w fun e w' => e = .returned (.tuple #[.int .i64 (codeOf c), .int .i64 0]) ∧ w = w' := by
  have hb : (codeOf c == -1) = false := by simpa using h
  go_enter Tryd.func32, Tryd.ntmps32
  go_wp2_with (go_at_call 38; refine (code_any c _ hT).mono ?_; rintro e w' ⟨rfl, rfl⟩)
  go_ret2
  exact ⟨rfl, rfl⟩
set_option maxRecDepth 100000 in
set_option maxHeartbeats 400000 in
theorem Code_no (c : Nat) (w : World) (hT : Tab w) (h : codeOf c = -1) :
    Calls Tryd.prog 32 #[.int .u8 c] w fun e w' => e = .returned (.tuple #[.int .i64 0, .int .i64 10]) ∧ w = w' := by
  have hb : (codeOf c == -1) = true := by simpa using h
  clear h
  go_enter Tryd.func32, Tryd.ntmps32
  go_wp2_with (go_at_call 38; refine (code_any c _ hT).mono ?_; rintro e w' ⟨rfl, rfl⟩)
  go_ret2
  exact ⟨rfl, rfl⟩

/-- The codes of a row. -/
def codesOf (bs : List UInt8) : List Int := bs.map fun b => codeOf b.toNat
end Go.Proofs.YtniiblamoimcjaaDoor
