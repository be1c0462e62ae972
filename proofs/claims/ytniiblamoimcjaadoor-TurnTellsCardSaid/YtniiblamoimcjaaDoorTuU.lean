/- Contracts of helixref09.Turn, Back. -/
import Derived.Test.YtniiblamoimcjaaDoorTuS
namespace Go.Proofs.YtniiblamoimcjaaDoor
open Go.RowKit Go.Shelf
attribute [local go_sem] Oper.semAt_some

theorem int_ne {n : Int} (h : n ≠ 0) : (n != 0) = true := by simpa using h
set_option maxRecDepth 100000 in
set_option maxHeartbeats 4000000 in
theorem RTurn_any (a : UInt8) (tv : Value) (ts : List UInt8) (hreach : ts.length ≤ 1000000) (w : World) (hS : Sl eB w.heap.size w tv ts) :
    Calls Tryd.prog 14 #[eB a, tv] w fun e w' => Below w.heap.size w w' ∧
      ((∃ v r, turnG a ts = .ok r ∧ e = .returned (.tuple #[v, .int .i64 0]) ∧ w'.ownsRow w.heap.size 5 1 v r.length (r.map eB)) ∨ ∃ n, turnG a ts = .error n ∧ e = .returned (.tuple #[.slice none 0 0, .int .i64 n])) := by
  obtain ⟨i0, hi, hz0, hz1, hz2⟩ := info_parts info_u8
  obtain ⟨A, cap, rfl, hcap, hcs⟩ := hS
  have hC := fun w => refCode_any a w
  by_cases h : codeOf a.toNat = -1
  · have hb : turnG a ts = .error 10 := by rw [turnG, gatG, if_pos h]
    rw [hb]
    simp only [if_pos h] at hC
    clear h hb
    go_enter Tryd.func14, Tryd.ntmps14
    go_wp2_with (go_at_call 23; refine (hC _).mono ?_; rintro e w' ⟨rfl, rfl⟩)
    go_ret2
    exact ⟨Below.refl _ _, .inr ⟨10, rfl, rfl⟩⟩
  simp only [if_neg h] at hC
  have Hg : Hid (turnG a ts = match (walkG behG (fun _ c => c) a ts).2 with | none => .ok (walkG behG (fun _ c => c) a ts).1 | some n => .error n) := Lib.hid (by rw [turnG, gatG, if_neg h]; rfl)
  generalize codeOf a.toNat = ka at *
  clear h
  go_enter Tryd.func14, Tryd.ntmps14
  go_wp2_with (go_at_call 23; refine (hC _).mono ?_; rintro e w' ⟨rfl, rfl⟩)
  go_loopw [0, 6, 9] (fun z v i wr => ∃ (j : Nat) (last : UInt8) (pre : List UInt8), j ≤ ts.length ∧ i = .int .i64 j ∧ z = eB last ∧
    Hid (walkG behG (fun _ c => c) a ts = (pre ++ (walkG behG (fun _ c => c) last (ts.drop j)).1, (walkG behG (fun _ c => c) last (ts.drop j)).2)) ∧ wr.ownsRow w.heap.size 5 1 v j (pre.map eB) ∧ Below w.heap.size w wr) (fun _ _ i _ => ts.length - (intOf i).toNat)
  case atStart => exact ⟨0, a, [], Nat.zero_le _, rfl, rfl, Lib.hid (by simp), World.ownsRow_nil _ _ _ _, Below.refl _ _⟩
  case round =>
    obtain ⟨j, last, pre, hj, rfl, rfl, Hwk, hrow, hB⟩ := hrel
    by_cases hlt : j < ts.length
    · obtain ⟨b, off, rfl, hb, hcell⟩ := hcs (by omega)
      have hcx : wr.cell? ⟨b, off + j, none⟩ = some (eB ts[j]) := (hB.cell (p := ⟨b, off + j, none⟩) hb).trans (hcell j _ (by simp [hlt]))
      have hdrop : ts.drop j = ts[j] :: ts.drop (j + 1) := List.drop_eq_getElem_cons hlt
      have Hd := Lib.hid hdrop
      clear hcell hcs hdrop
      generalize ts[j] = x at *
      cases hbt : behG last x with
      | error n =>
        have hn := int_ne (behG_ne last x n hbt)
        have hT := fun w => RBehind_not last x n hbt w
        have He : Hid (turnG a ts = .error n) := Lib.hid (by rw [Hg.out, Hwk.out, Hd.out, walkG, hbt])
        clear hbt
        go_wp2_with (go_at_call 10; refine (hT _).mono ?_; rintro e w' ⟨rfl, rfl⟩)
        go_ret2
        exact ⟨hB, .inr ⟨n, He.out, rfl⟩⟩
      | ok c =>
        have hT := fun w => RBehind_is last x c hbt w
        have Hw2 : Hid (walkG behG (fun _ c => c) a ts = ((pre ++ [c]) ++ (walkG behG (fun _ c => c) c (ts.drop (j + 1))).1, (walkG behG (fun _ c => c) c (ts.drop (j + 1))).2)) := Lib.hid (by
          rw [Hwk.out, Hd.out, walkG, hbt]; simp)
        have hm : j + 1 ≤ maxLen := by unfold maxLen; omega
        clear hbt
        go_wp2_with (first
          | (go_at_call 10; refine (hT _).mono ?_; rintro e w' ⟨rfl, rfl⟩)
          | (at_builtin
             refine wpList_append_own _ rfl _ _ 22 rfl w.heap.size 5 i0 (.int .u8 0) 1 1 Tryd.underlying22 hi hz0 hz1 hz2 rfl (by decide) _ _ _ rfl (hrow.alloc _) ⟨wr.heap.size, 0, none⟩ 1 1 [eB c] rfl rfl (cell_one_new _ _ _) (by simp [Value.oneCell']) hm (by omega) (by have := hB.size; simp; omega) ?_
             intro v' w1 hown' hgrow _))
        have hB' : Below w.heap.size w w1 := (hB.alloc hB.size _).trans (below_grown (hrow.alloc _) hgrow (by have := hB.size; simp; omega) (Nat.le_refl _))
        go_roundw
        case rel => exact ⟨j + 1, c, pre ++ [c], by omega, by go_num, rfl, Hw2, by simpa using hown', hB'⟩
        case measure => simp [intOf]; omega
    · obtain rfl : j = ts.length := by omega
      have He : Hid (turnG a ts = .ok pre) := Lib.hid (by
        have h0 := Hwk.out
        rw [List.drop_length] at h0
        rw [Hg.out, h0]; simp [walkG])
      have hl : pre.length = ts.length := by have := hrow.1; simpa using this
      have Hl := Lib.hid hl
      clear hl
      go_wp2
      go_ret2
      exact ⟨hB, .inl ⟨_, pre, He.out, rfl, by rw [Hl.out]; exact hrow⟩⟩
set_option maxRecDepth 100000 in
set_option maxHeartbeats 4000000 in
theorem RBack_any (a : UInt8) (tv : Value) (ts : List UInt8) (hreach : ts.length ≤ 1000000) (w : World) (hS : Sl eB w.heap.size w tv ts) :
    Calls Tryd.prog 16 #[eB a, tv] w fun e w' => Below w.heap.size w w' ∧
      ((∃ v r, backG a ts = .ok r ∧ e = .returned (.tuple #[v, .int .i64 0]) ∧ w'.ownsRow w.heap.size 5 1 v r.length (r.map eB)) ∨ ∃ n, backG a ts = .error n ∧ e = .returned (.tuple #[.slice none 0 0, .int .i64 n])) := by
  obtain ⟨i0, hi, hz0, hz1, hz2⟩ := info_parts info_u8
  obtain ⟨A, cap, rfl, hcap, hcs⟩ := hS
  have hC := fun w => refCode_any a w
  by_cases h : codeOf a.toNat = -1
  · have hb : backG a ts = .error 10 := by rw [backG, gatG, if_pos h]
    rw [hb]
    simp only [if_pos h] at hC
    clear h hb
    go_enter Tryd.func16, Tryd.ntmps16
    go_wp2_with (go_at_call 23; refine (hC _).mono ?_; rintro e w' ⟨rfl, rfl⟩)
    go_ret2
    exact ⟨Below.refl _ _, .inr ⟨10, rfl, rfl⟩⟩
  simp only [if_neg h] at hC
  have Hg : Hid (backG a ts = match (walkG triG (fun t _ => t) a ts).2 with | none => .ok (walkG triG (fun t _ => t) a ts).1 | some n => .error n) := Lib.hid (by rw [backG, gatG, if_neg h]; rfl)
  generalize codeOf a.toNat = ka at *
  clear h
  go_enter Tryd.func16, Tryd.ntmps16
  go_wp2_with (go_at_call 23; refine (hC _).mono ?_; rintro e w' ⟨rfl, rfl⟩)
  go_loopw [0, 6, 9] (fun z v i wr => ∃ (j : Nat) (last : UInt8) (pre : List UInt8), j ≤ ts.length ∧ i = .int .i64 j ∧ z = eB last ∧
    Hid (walkG triG (fun t _ => t) a ts = (pre ++ (walkG triG (fun t _ => t) last (ts.drop j)).1, (walkG triG (fun t _ => t) last (ts.drop j)).2)) ∧ wr.ownsRow w.heap.size 5 1 v j (pre.map eB) ∧ Below w.heap.size w wr) (fun _ _ i _ => ts.length - (intOf i).toNat)
  case atStart => exact ⟨0, a, [], Nat.zero_le _, rfl, rfl, Lib.hid (by simp), World.ownsRow_nil _ _ _ _, Below.refl _ _⟩
  case round =>
    obtain ⟨j, last, pre, hj, rfl, rfl, Hwk, hrow, hB⟩ := hrel
    by_cases hlt : j < ts.length
    · obtain ⟨b, off, rfl, hb, hcell⟩ := hcs (by omega)
      have hcx : ∀ W, Below w.heap.size w W → W.cell? ⟨b, off + j, none⟩ = some (eB ts[j]) := fun W hW => (hW.cell (p := ⟨b, off + j, none⟩) hb).trans (hcell j _ (by simp [hlt]))
      have hdrop : ts.drop j = ts[j] :: ts.drop (j + 1) := List.drop_eq_getElem_cons hlt
      have Hd := Lib.hid hdrop
      clear hcell hcs hdrop
      generalize ts[j] = x at *
      have hcw := hcx wr hB
      cases hbt : triG last x with
      | error n =>
        have hn := int_ne (triG_ne last x n hbt)
        have hT := fun w => RTrit_not last x n hbt w
        have He : Hid (backG a ts = .error n) := Lib.hid (by rw [Hg.out, Hwk.out, Hd.out, walkG, hbt])
        clear hbt
        go_wp2_with (go_at_call 12; refine (hT _).mono ?_; rintro e w' ⟨rfl, rfl⟩)
        go_ret2
        exact ⟨hB, .inr ⟨n, He.out, rfl⟩⟩
      | ok c =>
        have hT := fun w => RTrit_is last x c hbt w
        have Hw2 : Hid (walkG triG (fun t _ => t) a ts = ((pre ++ [c]) ++ (walkG triG (fun t _ => t) x (ts.drop (j + 1))).1, (walkG triG (fun t _ => t) x (ts.drop (j + 1))).2)) := Lib.hid (by
          rw [Hwk.out, Hd.out, walkG, hbt]; simp)
        have hm : j + 1 ≤ maxLen := by unfold maxLen; omega
        clear hbt
        go_wp2_with (first
          | (go_at_call 12; refine (hT _).mono ?_; rintro e w' ⟨rfl, rfl⟩)
          | (at_builtin
             refine wpList_append_own _ rfl _ _ 22 rfl w.heap.size 5 i0 (.int .u8 0) 1 1 Tryd.underlying22 hi hz0 hz1 hz2 rfl (by decide) _ _ _ rfl (hrow.alloc _) ⟨wr.heap.size, 0, none⟩ 1 1 [eB c] rfl rfl (cell_one_new _ _ _) (by simp [Value.oneCell']) hm (by omega) (by have := hB.size; simp; omega) ?_
             intro v' w1 hown' hgrow _
             have hB' : Below w.heap.size w w1 := (hB.alloc hB.size _).trans (below_grown (hrow.alloc _) hgrow (by have := hB.size; simp; omega) (Nat.le_refl _))
             have hcw1 := hcx w1 hB'))
        go_roundw
        case rel => exact ⟨j + 1, x, pre ++ [c], by omega, by go_num, rfl, Hw2, by simpa using hown', hB'⟩
        case measure => simp [intOf]; omega
    · obtain rfl : j = ts.length := by omega
      have He : Hid (backG a ts = .ok pre) := Lib.hid (by
        have h0 := Hwk.out
        rw [List.drop_length] at h0
        rw [Hg.out, h0]; simp [walkG])
      have hl : pre.length = ts.length := by have := hrow.1; simpa using this
      have Hl := Lib.hid hl
      clear hl
      go_wp2
      go_ret2
      exact ⟨hB, .inl ⟨_, pre, He.out, rfl, by rw [Hl.out]; exact hrow⟩⟩
end Go.Proofs.YtniiblamoimcjaaDoor
