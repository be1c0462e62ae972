/- Contract of helixref12.Rises. -/
import Derived.Test.YtheealkoooiloaaDoorSxA
namespace Go.Proofs.YtheealkoooiloaaDoor
open Go.RowKit Go.Shelf
attribute [local go_sem] Oper.semAt_some run_store_func

theorem rCells_all (x : List UInt8) (n k : Nat) (h : n ≤ k) : rCells x n k = rCells x n n := by
  unfold rCells
  congr 1
  apply List.map_congr_left
  intro i hi
  rw [List.mem_range] at hi
  rw [show decide (i < k) = decide (i < n) by rw [decide_eq_decide]; omega]
theorem rCells_one (x : List UInt8) (n : Nat) : rCells x n 1 = rCells x n 0 := by
  unfold rCells
  congr 1
  apply List.map_congr_left
  intro i hi
  rcases i with _ | i <;> simp [riseB]
set_option maxRecDepth 100000 in
set_option maxHeartbeats 4000000 in
theorem rRises_any (sv : Value) (x : List UInt8) (hreach : x.length ≤ 1000000) (w : World) (hS : Sl eB w.heap.size w sv x) :
    Calls Tryd.prog 16 #[sv] w fun e w' => Below w.heap.size w w' ∧ ∃ v, e = .returned v ∧ Sl eF w'.heap.size w' v ((List.range x.length).map (riseB x)) := by
  obtain ⟨A, c, rfl⟩ := hS.len
  obtain ⟨i0, hi, hz0, hz1, hz2⟩ := info_parts info_b
  have hmk : ∀ w, (Instr.makeSlice 32 (.int .i64 (x.length : Int)) (.int .i64 (x.length : Int))).run Tryd.prog w = .ok (.slice (some ⟨w.heap.size, 0, none⟩) x.length x.length) (w.alloc (.cells (rCells x x.length 0) 4)) := by
    intro w
    have h1 := run_make (P := Tryd.prog) w 32 4 i0 (.bool false) Tryd.underlying32 hi hz0 .i64 .i64 (x.length : Int) (x.length : Int) (by omega) (by omega) (by rw [hz2]; omega) (by omega)
    have h2 : madeCells (Value.bool false).cells ((x.length : Int).toNat * i0.size) = rCells x x.length 0 := by
      rw [hz1]
      apply Array.ext
      · simp [madeCells, rCells, Value.cells]
      · intro j _ _
        simp [madeCells, rCells, Value.cells, Nat.mod_one]
    rw [h2] at h1
    simpa using h1
  have hr0 := Rowed.new w 4 (rCells x x.length 0)
  have hA := below_alloc w (.cells (rCells x x.length 0) 4)
  go_enter Tryd.func16, Tryd.ntmps16
  go_wp2_with fail
  go_loopw [4] (fun i wr => ∃ k : Nat, 1 ≤ k ∧ (k ≤ x.length ∨ k = 1) ∧ i = .int .i64 k ∧ Rowed wr w.heap.size 4 (rCells x x.length k) ∧ Below w.heap.size w wr) (fun i _ => x.length + 1 - (intOf i).toNat)
  case atStart => exact ⟨1, Nat.le_refl _, .inr rfl, rfl, by rw [rCells_one]; exact hr0, hA⟩
  case round =>
    obtain ⟨k, hk1, hk, rfl, hr, hB⟩ := hrel
    by_cases hlt : k < x.length
    · obtain ⟨bk, off, rfl, q0, q1⟩ : ∃ bk off, A = some ⟨bk, off, none⟩ ∧ wr.drew.cell? ⟨bk, off + k, none⟩ = some (eB (atB x k)) ∧ wr.drew.cell? ⟨bk, off + (k - 1), none⟩ = some (eB (atB x (k - 1))) := by
        obtain ⟨A', c', e, hc, hcs⟩ := hS
        injection e with e1 e2 e3
        subst e1 e3
        obtain ⟨bk, off, e4, hb, hcell⟩ := hcs (by omega)
        exact ⟨bk, off, e4, (hB.cell (p := ⟨bk, off + k, none⟩) hb).trans (hcell k _ (atB_lt hlt)), (hB.cell (p := ⟨bk, off + (k - 1), none⟩) hb).trans (hcell (k - 1) _ (atB_lt (by omega)))⟩
      have e1 : IntKind.i64.wrap ((k : Int) - 1) = ((k - 1 : Nat) : Int) := by rw [IntWalk.i64_in _ (by omega)]; omega
      have hkl : (k : Int) < x.length := by omega
      have hkl1 : ((k - 1 : Nat) : Int) < x.length := by omega
      have hrise : riseB x k = decide ((atB x (k - 1)).toNat ≤ (atB x k).toNat) := by
        unfold riseB
        rw [decide_eq_true (show 0 < k by omega), Bool.true_and]
      have hset := hr.set k (.bool (riseB x k))
      rw [rCells_set, hrise] at hset
      have Hlt := Lib.hid hlt
      have Hk1 := Lib.hid hk1
      have Hset := Lib.hid hset
      clear hset hrise hlt hk hk1 hS
      generalize hp : k - 1 = p at *
      generalize atB x k = a at *
      generalize atB x p = b at *
      go_wp2_with fail
      refine (wpIn_wide (n := 5)).1 ?_
      refine wpIn_region_det 13 [(14, .slice (some ⟨w.heap.size, 0, none⟩) x.length x.length), (15, .int .i64 k), (16, .slice (some ⟨bk, off, none⟩) x.length c), (17, .int .i64 k), (18, .pointer (some ⟨bk, off + k, none⟩)), (19, eB a), (20, .slice (some ⟨bk, off, none⟩) x.length c), (21, .int .i64 k), (22, .int .i64 p), (23, .pointer (some ⟨bk, off + p, none⟩)), (24, eB b), (25, .bool (decide ((b.toNat : Int) ≤ (a.toNat : Int)))), (26, .pointer (some ⟨w.heap.size, k, none⟩))]
        (by kernel_rfl) (by decide) (by kernel_rfl) (by kernel_rfl) (by kernel_rfl) (by kernel_rfl) (by kernel_rfl) ?ok1 ?tail1
      case ok1 =>
        intro A' hA'
        simp only [putAll, Act.put, List.setIfInBounds_toArray, List.set_cons_zero, List.set_cons_succ] at hA'
        subst hA'
        refine ⟨?_, ?_, ?_, ?_, ?_, ?_, ?_, ?_, ?_, ?_, ?_, ?_, ?_, trivial⟩
        all_goals unfold DetIn
        all_goals go_simp
      case tail1 =>
        intro A' hA'
        simp only [putAll, Act.put, List.setIfInBounds_toArray, List.set_cons_zero, List.set_cons_succ] at hA'
        subst hA'
        have hrd : Rowed wr.drew w.heap.size 4 (rCells x x.length k) := hr
        have c0 := hrd.cell k
        rw [rCells_get x _ _ k Hlt.out] at c0
        have f0 := hrd.frozen k
        have hBs := (hB.trans ⟨rfl, rfl, rfl, Nat.le_refl _, fun _ _ => rfl⟩ : Below w.heap.size w wr.drew).setCell (p := ⟨w.heap.size, k, none⟩) (Nat.le_refl _) (.bool (decide (b.toNat ≤ a.toNat)))
        simp only [List.drop_succ_cons, List.drop_zero]
        gi_wp2_with fail
        go_wp2_with fail
        go_roundw
        case rel => exact ⟨k + 1, by omega, .inl Hlt.out, by have := Hlt.out; go_num, Hset.out, hBs.trans ⟨rfl, rfl, rfl, Nat.le_refl _, fun _ _ => rfl⟩⟩
        case measure => have := Hlt.out; simp [intOf]; omega
    · have hr : Rowed wr w.heap.size 4 (rCells x x.length x.length) := by rw [← rCells_all x x.length k (by omega)]; exact hr
      have Hr := Lib.hid hr
      have hlt' : ¬ (k : Int) < x.length := by omega
      clear hk hk1
      go_wp2_with fail
      go_ret
      refine ⟨hB, _, rfl, ?_⟩
      have hrow4 := Hr.out
      refine ⟨some ⟨w.heap.size, 0, none⟩, x.length, by simp, by simp, fun _ => ⟨w.heap.size, 0, rfl, Rowed.lt hrow4, fun i b hb => ?_⟩⟩
      rw [Nat.zero_add, hrow4.cell i]
      have hi : i < x.length := by have := (List.getElem?_eq_some_iff.1 hb).1; simpa using this
      rw [rCells_get x _ _ i hi]
      simp [hi] at hb
      rw [← hb]
      simp [hi]
end Go.Proofs.YtheealkoooiloaaDoor
