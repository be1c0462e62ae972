import Derived.Test.YtjclfkbhakjdaaaDoorRows
import Derived.Test.YtjclfkbhakjdaaaDoorRPY
namespace Go.Proofs.YtjclfkbhakjdaaaDoor.Sh
open Go.RowKit Go.Shelf
attribute [local go_sem] Oper.semAt_some run_store_func
def Tab (w : World) : Prop :=
 w.cell? ⟨0, 0, none⟩ = some (.int .i64 2) ∧ w.cell? ⟨0, 1, none⟩ = some (.int .i64 7) ∧ w.cell? ⟨0, 2, none⟩ = some (.int .i64 12) ∧ w.cell? ⟨0, 3, none⟩ = some (.int .i64 17) ∧ w.cell? ⟨0, 4, none⟩ = some (.int .i64 22)
theorem Tab.lt {w : World} (h : Tab w) : 0 < w.heap.size := World.block_lt_of_cell? w ⟨0, 0, none⟩ h.1
theorem Tab.below {w w' : World} (h : Tab w) (hb : Below w.heap.size w w') : Tab w' :=
 ⟨(hb.cell (p := ⟨0, 0, none⟩) h.lt).trans h.1, (hb.cell (p := ⟨0, 1, none⟩) h.lt).trans h.2.1, (hb.cell (p := ⟨0, 2, none⟩) h.lt).trans h.2.2.1, (hb.cell (p := ⟨0, 3, none⟩) h.lt).trans h.2.2.2.1, (hb.cell (p := ⟨0, 4, none⟩) h.lt).trans h.2.2.2.2⟩
abbrev shV (P D R : Int) : Value := .agg #[.int .i64 P, .int .i64 D, .int .i64 R]
def payOk (P : Int) : Prop := P = 2 ∨ P = 7 ∨ P = 12 ∨ P = 17 ∨ P = 22
def restOk (D R : Int) : Prop := 1 ≤ D ∧ 0 ≤ R ∧ R ≤ 32 ∧ D ≤ 255 - R
def May (P D R : Int) : Prop := payOk P ∧ restOk D R
instance (P D R : Int) : Decidable (May P D R) := by unfold May payOk restOk; infer_instance
theorem cells_of_alloc (w : World) (P D R : Int) (t : TypeId) (j : Nat) : (w.alloc (.cells #[.int .i64 P, .int .i64 D, .int .i64 R] t)).cell? ⟨w.heap.size, j, none⟩ = (#[Value.int .i64 P, .int .i64 D, .int .i64 R])[j]? := (Rowed.new w t _).cell j
def pay (k : Nat) : Int := 5 * k + 2
theorem payOk_at {P : Int} (h : payOk P) : ∃ k, k < 5 ∧ P = pay k := by
 rcases h with rfl | rfl | rfl | rfl | rfl
 · exact ⟨0, by omega, rfl⟩
 · exact ⟨1, by omega, rfl⟩
 · exact ⟨2, by omega, rfl⟩
 · exact ⟨3, by omega, rfl⟩
 · exact ⟨4, by omega, rfl⟩
theorem pay_ok (k : Nat) (h : k < 5) : payOk (pay k) := by
 rcases (show k = 0 ∨ k = 1 ∨ k = 2 ∨ k = 3 ∨ k = 4 by omega) with rfl | rfl | rfl | rfl | rfl <;> simp [pay, payOk]
set_option maxRecDepth 100000 in
set_option maxHeartbeats 4000000 in
theorem Check_yes (P D R : Int) (h : May P D R) (w : World) (hT : Tab w) :
    Calls Tryd.prog 30 #[shV P D R] w fun e w' => e = .returned (.int .i64 0) ∧ Below w.heap.size w w' := by
  obtain ⟨hp, h1, h2, h3, h4⟩ := h
  have hA : Below w.heap.size w (w.alloc (.cells #[.int .i64 P, .int .i64 D, .int .i64 R] 23)) := (Below.refl _ w).alloc (Nat.le_refl _) _
  obtain ⟨t0, t1, t2, t3, t4⟩ := hT.below hA
  have b0 : (w.alloc (.cells #[.int .i64 P, .int .i64 D, .int .i64 R] 23)).cell? ⟨w.heap.size, 0, none⟩ = some (.int .i64 P) := cells_of_alloc w P D R _ 0
  have b1 : (w.alloc (.cells #[.int .i64 P, .int .i64 D, .int .i64 R] 23)).cell? ⟨w.heap.size, 1, none⟩ = some (.int .i64 D) := cells_of_alloc w P D R _ 1
  have b2 : (w.alloc (.cells #[.int .i64 P, .int .i64 D, .int .i64 R] 23)).cell? ⟨w.heap.size, 2, none⟩ = some (.int .i64 R) := cells_of_alloc w P D R _ 2
  have Hp := Lib.hid hp
  clear hp
  have d1 : decide (1 ≤ D) = true := decide_eq_true h1
  have d2 : decide (0 ≤ R) = true := decide_eq_true h2
  have d3 : decide (R ≤ 32) = true := decide_eq_true h3
  have d4 : decide (D ≤ 255 - R) = true := decide_eq_true h4
  have i0 : ∀ w, (Instr.index 68 (.agg #[.int .i64 2, .int .i64 7, .int .i64 12, .int .i64 17, .int .i64 22]) (.int .i64 0)).run Tryd.prog w = .ok (.int .i64 2) w := fun _ => by kernel_rfl
  have i1 : ∀ w, (Instr.index 68 (.agg #[.int .i64 2, .int .i64 7, .int .i64 12, .int .i64 17, .int .i64 22]) (.int .i64 1)).run Tryd.prog w = .ok (.int .i64 7) w := fun _ => by kernel_rfl
  have i2 : ∀ w, (Instr.index 68 (.agg #[.int .i64 2, .int .i64 7, .int .i64 12, .int .i64 17, .int .i64 22]) (.int .i64 2)).run Tryd.prog w = .ok (.int .i64 12) w := fun _ => by kernel_rfl
  have i3 : ∀ w, (Instr.index 68 (.agg #[.int .i64 2, .int .i64 7, .int .i64 12, .int .i64 17, .int .i64 22]) (.int .i64 3)).run Tryd.prog w = .ok (.int .i64 17) w := fun _ => by kernel_rfl
  have i4 : ∀ w, (Instr.index 68 (.agg #[.int .i64 2, .int .i64 7, .int .i64 12, .int .i64 17, .int .i64 22]) (.int .i64 4)).run Tryd.prog w = .ok (.int .i64 22) w := fun _ => by kernel_rfl
  go_enter Tryd.func30, Tryd.ntmps30
  go_wp2_with fail
  go_loop [6] (fun i => ∃ k : Nat, k ≤ 5 ∧ i = .int .i64 k ∧ ∀ j, j < k → P ≠ pay j) (fun i => 5 - (intOf i).toNat)
  case atStart => exact ⟨0, by omega, rfl, fun j hj => absurd hj (by omega)⟩
  case round =>
   obtain ⟨k, hk, rfl, hne⟩ := hrel
   have Hne := Lib.hid hne
   clear hne
   rcases (show k = 5 ∨ k = 0 ∨ k = 1 ∨ k = 2 ∨ k = 3 ∨ k = 4 by omega) with rfl | rfl | rfl | rfl | rfl | rfl
   · exfalso
     obtain ⟨j, hj, e⟩ := payOk_at Hp.out
     exact Hne.out j hj e
   · by_cases hx : P = 2
     · have e : (P == 2) = true := beq_iff_eq.2 hx
       clear hx
       go_wp2
       go_ret
       exact ⟨rfl, hA⟩
     · have e : (P == 2) = false := beq_eq_false_iff_ne.2 hx
       have Hx := Lib.hid hx
       clear hx
       go_wp2
       go_round
       case rel =>
        refine ⟨1, by omega, by go_num, fun j hj => ?_⟩
        rcases (show j < 0 ∨ j = 0 by omega) with h | rfl
        · exact Hne.out j h
        · exact Hx.out
       case measure => simp [intOf]
   · by_cases hx : P = 7
     · have e : (P == 7) = true := beq_iff_eq.2 hx
       clear hx
       go_wp2
       go_ret
       exact ⟨rfl, hA⟩
     · have e : (P == 7) = false := beq_eq_false_iff_ne.2 hx
       have Hx := Lib.hid hx
       clear hx
       go_wp2
       go_round
       case rel =>
        refine ⟨2, by omega, by go_num, fun j hj => ?_⟩
        rcases (show j < 1 ∨ j = 1 by omega) with h | rfl
        · exact Hne.out j h
        · exact Hx.out
       case measure => simp [intOf]
   · by_cases hx : P = 12
     · have e : (P == 12) = true := beq_iff_eq.2 hx
       clear hx
       go_wp2
       go_ret
       exact ⟨rfl, hA⟩
     · have e : (P == 12) = false := beq_eq_false_iff_ne.2 hx
       have Hx := Lib.hid hx
       clear hx
       go_wp2
       go_round
       case rel =>
        refine ⟨3, by omega, by go_num, fun j hj => ?_⟩
        rcases (show j < 2 ∨ j = 2 by omega) with h | rfl
        · exact Hne.out j h
        · exact Hx.out
       case measure => simp [intOf]
   · by_cases hx : P = 17
     · have e : (P == 17) = true := beq_iff_eq.2 hx
       clear hx
       go_wp2
       go_ret
       exact ⟨rfl, hA⟩
     · have e : (P == 17) = false := beq_eq_false_iff_ne.2 hx
       have Hx := Lib.hid hx
       clear hx
       go_wp2
       go_round
       case rel =>
        refine ⟨4, by omega, by go_num, fun j hj => ?_⟩
        rcases (show j < 3 ∨ j = 3 by omega) with h | rfl
        · exact Hne.out j h
        · exact Hx.out
       case measure => simp [intOf]
   · by_cases hx : P = 22
     · have e : (P == 22) = true := beq_iff_eq.2 hx
       clear hx
       go_wp2
       go_ret
       exact ⟨rfl, hA⟩
     · have e : (P == 22) = false := beq_eq_false_iff_ne.2 hx
       have Hx := Lib.hid hx
       clear hx
       go_wp2
       go_round
       case rel =>
        refine ⟨5, by omega, by go_num, fun j hj => ?_⟩
        rcases (show j < 4 ∨ j = 4 by omega) with h | rfl
        · exact Hne.out j h
        · exact Hx.out
       case measure => simp [intOf]
set_option maxRecDepth 100000 in
set_option maxHeartbeats 4000000 in
theorem Check_no (P D R : Int) (h : ¬ May P D R) (w : World) (hT : Tab w) :
    Calls Tryd.prog 30 #[shV P D R] w fun e w' => e = .returned (.int .i64 180) ∧ Below w.heap.size w w' := by
  have hA : Below w.heap.size w (w.alloc (.cells #[.int .i64 P, .int .i64 D, .int .i64 R] 23)) := (Below.refl _ w).alloc (Nat.le_refl _) _
  obtain ⟨t0, t1, t2, t3, t4⟩ := hT.below hA
  have b0 : (w.alloc (.cells #[.int .i64 P, .int .i64 D, .int .i64 R] 23)).cell? ⟨w.heap.size, 0, none⟩ = some (.int .i64 P) := cells_of_alloc w P D R _ 0
  have b1 : (w.alloc (.cells #[.int .i64 P, .int .i64 D, .int .i64 R] 23)).cell? ⟨w.heap.size, 1, none⟩ = some (.int .i64 D) := cells_of_alloc w P D R _ 1
  have b2 : (w.alloc (.cells #[.int .i64 P, .int .i64 D, .int .i64 R] 23)).cell? ⟨w.heap.size, 2, none⟩ = some (.int .i64 R) := cells_of_alloc w P D R _ 2
  have hcase : ¬ payOk P ∨ (decide (1 ≤ D) = false) ∨ (decide (1 ≤ D) = true ∧ decide (0 ≤ R) = false) ∨ (decide (1 ≤ D) = true ∧ decide (0 ≤ R) = true ∧ decide (R ≤ 32) = false) ∨ (decide (1 ≤ D) = true ∧ decide (0 ≤ R) = true ∧ decide (R ≤ 32) = true ∧ 0 ≤ R ∧ R ≤ 32 ∧ decide (D ≤ 255 - R) = false) := by
   by_cases hp : payOk P
   · right
     have hr : ¬ restOk D R := fun hr => h ⟨hp, hr⟩
     unfold restOk at hr
     simp only [decide_eq_true_eq, decide_eq_false_iff_not]
     omega
   · exact .inl hp
  clear h
  have i0 : ∀ w, (Instr.index 68 (.agg #[.int .i64 2, .int .i64 7, .int .i64 12, .int .i64 17, .int .i64 22]) (.int .i64 0)).run Tryd.prog w = .ok (.int .i64 2) w := fun _ => by kernel_rfl
  have i1 : ∀ w, (Instr.index 68 (.agg #[.int .i64 2, .int .i64 7, .int .i64 12, .int .i64 17, .int .i64 22]) (.int .i64 1)).run Tryd.prog w = .ok (.int .i64 7) w := fun _ => by kernel_rfl
  have i2 : ∀ w, (Instr.index 68 (.agg #[.int .i64 2, .int .i64 7, .int .i64 12, .int .i64 17, .int .i64 22]) (.int .i64 2)).run Tryd.prog w = .ok (.int .i64 12) w := fun _ => by kernel_rfl
  have i3 : ∀ w, (Instr.index 68 (.agg #[.int .i64 2, .int .i64 7, .int .i64 12, .int .i64 17, .int .i64 22]) (.int .i64 3)).run Tryd.prog w = .ok (.int .i64 17) w := fun _ => by kernel_rfl
  have i4 : ∀ w, (Instr.index 68 (.agg #[.int .i64 2, .int .i64 7, .int .i64 12, .int .i64 17, .int .i64 22]) (.int .i64 4)).run Tryd.prog w = .ok (.int .i64 22) w := fun _ => by kernel_rfl
  go_enter Tryd.func30, Tryd.ntmps30
  go_wp2_with fail
  go_loop [6] (fun i => ∃ k : Nat, k ≤ 5 ∧ i = .int .i64 k) (fun i => 5 - (intOf i).toNat)
  case atStart => exact ⟨0, by omega, rfl⟩
  case round =>
   obtain ⟨k, hk, rfl⟩ := hrel
   rcases (show k = 5 ∨ k = 0 ∨ k = 1 ∨ k = 2 ∨ k = 3 ∨ k = 4 by omega) with rfl | rfl | rfl | rfl | rfl | rfl
   · clear hcase
     go_wp2
     go_ret
     exact ⟨rfl, hA⟩
   · by_cases hx : P = 2
     · have e : (P == 2) = true := beq_iff_eq.2 hx
       rcases hcase with hc | hc | ⟨c1, hc⟩ | ⟨c1, c2, hc⟩ | ⟨c1, c2, c3, c4, c5, hc⟩
       · exact absurd (by rw [hx]; simp [payOk]) hc
       all_goals
        clear hx
        go_wp2
        go_round
        case rel => exact ⟨1, by omega, by go_num⟩
        case measure => simp [intOf]
     · have e : (P == 2) = false := beq_eq_false_iff_ne.2 hx
       clear hx hcase
       go_wp2
       go_round
       case rel => exact ⟨1, by omega, by go_num⟩
       case measure => simp [intOf]
   · by_cases hx : P = 7
     · have e : (P == 7) = true := beq_iff_eq.2 hx
       rcases hcase with hc | hc | ⟨c1, hc⟩ | ⟨c1, c2, hc⟩ | ⟨c1, c2, c3, c4, c5, hc⟩
       · exact absurd (by rw [hx]; simp [payOk]) hc
       all_goals
        clear hx
        go_wp2
        go_round
        case rel => exact ⟨2, by omega, by go_num⟩
        case measure => simp [intOf]
     · have e : (P == 7) = false := beq_eq_false_iff_ne.2 hx
       clear hx hcase
       go_wp2
       go_round
       case rel => exact ⟨2, by omega, by go_num⟩
       case measure => simp [intOf]
   · by_cases hx : P = 12
     · have e : (P == 12) = true := beq_iff_eq.2 hx
       rcases hcase with hc | hc | ⟨c1, hc⟩ | ⟨c1, c2, hc⟩ | ⟨c1, c2, c3, c4, c5, hc⟩
       · exact absurd (by rw [hx]; simp [payOk]) hc
       all_goals
        clear hx
        go_wp2
        go_round
        case rel => exact ⟨3, by omega, by go_num⟩
        case measure => simp [intOf]
     · have e : (P == 12) = false := beq_eq_false_iff_ne.2 hx
       clear hx hcase
       go_wp2
       go_round
       case rel => exact ⟨3, by omega, by go_num⟩
       case measure => simp [intOf]
   · by_cases hx : P = 17
     · have e : (P == 17) = true := beq_iff_eq.2 hx
       rcases hcase with hc | hc | ⟨c1, hc⟩ | ⟨c1, c2, hc⟩ | ⟨c1, c2, c3, c4, c5, hc⟩
       · exact absurd (by rw [hx]; simp [payOk]) hc
       all_goals
        clear hx
        go_wp2
        go_round
        case rel => exact ⟨4, by omega, by go_num⟩
        case measure => simp [intOf]
     · have e : (P == 17) = false := beq_eq_false_iff_ne.2 hx
       clear hx hcase
       go_wp2
       go_round
       case rel => exact ⟨4, by omega, by go_num⟩
       case measure => simp [intOf]
   · by_cases hx : P = 22
     · have e : (P == 22) = true := beq_iff_eq.2 hx
       rcases hcase with hc | hc | ⟨c1, hc⟩ | ⟨c1, c2, hc⟩ | ⟨c1, c2, c3, c4, c5, hc⟩
       · exact absurd (by rw [hx]; simp [payOk]) hc
       all_goals
        clear hx
        go_wp2
        go_round
        case rel => exact ⟨5, by omega, by go_num⟩
        case measure => simp [intOf]
     · have e : (P == 22) = false := beq_eq_false_iff_ne.2 hx
       clear hx hcase
       go_wp2
       go_round
       case rel => exact ⟨5, by omega, by go_num⟩
       case measure => simp [intOf]
end Go.Proofs.YtjclfkbhakjdaaaDoor.Sh
