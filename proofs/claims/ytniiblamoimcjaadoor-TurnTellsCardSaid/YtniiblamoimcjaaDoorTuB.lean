/- Contracts of turn.told, others, behind, trit. -/
import Derived.Test.YtniiblamoimcjaaDoorTuA
import Derived.Test.YtniiblamoimcjaaDoorRPr
import Derived.Test.YtniiblamoimcjaaDoorAR
namespace Go.Proofs.YtniiblamoimcjaaDoor
open Go.RowKit Go.Shelf
attribute [local go_sem] Oper.semAt_some run_store_func

abbrev aB (L : List UInt8) : Value := .agg (L.map eB).toArray
abbrev Row8 (W : World) (g : Nat) (t : TypeId) (L : List UInt8) : Prop := Rowed W g t (L.map eB).toArray
theorem cells_aB (L : List UInt8) : (aB L).cells = (L.map eB).toArray := rfl
theorem one_map (L : List UInt8) : (L.map eB).toArray.all (·.oneCell') = true := by
  rw [Array.all_eq_true']
  intro x hx
  simp only [List.mem_toArray, List.mem_map] at hx
  obtain ⟨j, _, rfl⟩ := hx
  rfl
theorem below_setRow {B : Nat} {w W : World} (h : Below B w W) (g : Nat) (cs : Array Value) (hg : B ≤ g) : Below B w (W.setRow g cs) :=
  h.trans ⟨rfl, rfl, rfl, by simp, fun k hk => setRow_other _ g k _ (by omega)⟩
theorem Row8.put {W : World} {g : Nat} {t : TypeId} {cs : Array Value} (h : Rowed W g t cs) (L : List UInt8) : Row8 (W.setRow g (L.map eB).toArray) g t L := setRow_heap W g cs (L.map eB).toArray _ _ h
theorem Rowed.put_other {W : World} {g g' : Nat} {t : TypeId} {cs cs' : Array Value} (h : Rowed W g t cs) (hne : g ≠ g') : Rowed (W.setRow g' cs') g t cs := (setRow_other W g' g cs' hne).trans h
theorem row_get (L : List UInt8) (k : Nat) : (L.map eB).toArray[k]? = (L[k]?).map eB := by simp
theorem info3 : (Tryd.prog.info? 45).map (fun i => (i.zero, i.size)) = some (some (aB [0, 0, 0]), 3) := by kernel_rfl
theorem size1 : (Tryd.prog.info? 5).map (·.size) = some 1 := by kernel_rfl
theorem size3 (L : List UInt8) (h : L.length = 3) : (Tryd.prog.info? 45).map (·.size) = some (L.map eB).toArray.size := by
  rw [(zero_of_info info3).2]; simp [h]
abbrev errno (n : Int) : List PanicEntry := [{ v := .iface 24 (.int .i64 n), recovered := false }]

/-- The three letters that one of that code is not; the first j of them. -/
def oRow (k j : Nat) : List UInt8 := (List.range 3).map fun n => if n < j then letterOf (if n < k then (n : Int) else (n : Int) + 1) else 0
def oth (k : Nat) : List UInt8 := oRow k 3
theorem oRow_length (k j : Nat) : (oRow k j).length = 3 := by simp [oRow]
theorem oRow_zero (k : Nat) : oRow k 0 = [0, 0, 0] := by simp [oRow, List.range_succ]
theorem oRow_set (k j : Nat) (h : j < 3) : ((oRow k j).map eB).toArray.setIfInBounds j (eB (letterOf (if j < k then (j : Int) else (j : Int) + 1))) = ((oRow k (j + 1)).map eB).toArray := by
  rcases (show j = 0 ∨ j = 1 ∨ j = 2 by omega) with rfl | rfl | rfl <;> simp [oRow, List.range_succ]

theorem Tab.set {W : World} (h : Tab W) (g j : Nat) (v : Value) (hne : 0 ≠ g) : Tab (W.setCell ⟨g, j, none⟩ v) := by
  have hc : ∀ n, (W.setCell ⟨g, j, none⟩ v).cell? ⟨0, n, none⟩ = W.cell? ⟨0, n, none⟩ := fun n =>
    World.cell?_of_block (w := W) (Below.heap_setCell W ⟨g, j, none⟩ v 0 hne)
  exact ⟨(hc 0).trans h.1, (hc 1).trans h.2.1, (hc 2).trans h.2.2.1, (hc 3).trans h.2.2.2⟩
theorem told_ok (w : World) : Calls Tryd.prog 33 #[.int .i64 0] w fun e w' => e = .returned (.tuple #[]) ∧ w = w' := by
  go_enter Tryd.func33, Tryd.ntmps33
  go_wp2
  go_end0
  exact ⟨rfl, rfl⟩
theorem told_no (n : Int) (hn : n ≠ 0) (w : World) : Calls Tryd.prog 33 #[.int .i64 n] w fun e w' => e = .panicked (errno n) ∧ w = w' := by
  have h : ((n : Int) != 0) = true := by simpa using hn
  go_enter Tryd.func33, Tryd.ntmps33
  go_wp2
  exact ⟨rfl, rfl, rfl⟩

set_option maxRecDepth 100000 in
set_option maxHeartbeats 2000000 in
theorem others_yes (a : UInt8) (k : Nat) (hk : codeOf a.toNat = (k : Int)) (w : World) (hT : Tab w) :
    Calls Tryd.prog 31 #[eB a] w fun e w' => e = .returned (aB (oth k)) ∧ Below w.heap.size w w' := by
  obtain ⟨hz, hsz⟩ := zero_of_info info3
  have hc0 := cells_aB [0, 0, 0]
  have hC := fun w hT => Code_yes a.toNat w hT (by omega)
  rw [hk] at hC
  have hkr : k ≤ 3 := by have := codeOf_range a.toNat; omega
  obtain ⟨Z, hZ⟩ : ∃ Z : List UInt8, [0, 0, 0] = Z := ⟨_, rfl⟩
  have hZl : Z.length = 3 := by rw [← hZ]; rfl
  have HZ := Lib.hid (show oRow k 0 = Z by rw [oRow_zero, hZ])
  rw [hZ] at hz hc0
  clear hZ hk
  have hA := below_alloc w (.cells (Z.map eB).toArray 45)
  have hr := Rowed.new w 45 (Z.map eB).toArray
  have hT1 := hT.below hA
  go_enter Tryd.func31, Tryd.ntmps31
  go_wp2_with fail
  generalize hw1 : w.alloc (.cells (Z.map eB).toArray 45) = w1 at *
  go_at_call 32
  refine (hC _ hT1).mono ?_
  rintro e w' ⟨rfl, rfl⟩
  have hr2 := Rowed.new w1 45 (Z.map eB).toArray
  have hA2 := hA.alloc hA.size (.cells (Z.map eB).toArray 45)
  have hr1 := hr.alloc (.cells (Z.map eB).toArray 45)
  have hT2 := hT1.below (below_alloc w1 (.cells (Z.map eB).toArray 45))
  have hl1 := hr.lt
  have hr2 : Rowed (w1.alloc (.cells (Z.map eB).toArray 45)) w1.heap.size 45 ((oRow k 0).map eB).toArray := by rw [HZ.out]; exact hr2
  have hlt := hT.lt
  have hgl : 0 < w1.heap.size := by have := hA.size; omega
  clear hC hA hr hT1 hw1 hT
  go_wp2_with (go_at_call 33; refine (told_ok _).mono ?_; rintro e w' ⟨rfl, rfl⟩)
  generalize w1.alloc (.cells (Z.map eB).toArray 45) = w2 at *
  generalize w1.heap.size = g at *
  have hLt : ∀ n, ∀ w, Tab w → Calls Tryd.prog 37 #[.int .i64 n] w fun e w' => e = .returned (eB (letterOf n)) ∧ w = w' := fun n w h => letter_any n w h
  go_loopw [14] (fun i wr => ∃ j : Nat, j ≤ 3 ∧ i = .int .i64 j ∧ Row8 wr g 45 (oRow k j) ∧ Rowed wr w.heap.size 45 (Z.map eB).toArray ∧ Below w.heap.size w wr ∧ Tab wr) (fun i _ => 3 - (intOf i).toNat)
  case atStart => exact ⟨0, Nat.zero_le _, rfl, hr2, hr1, hA2, hT2⟩
  case round =>
    clear hr2 hr1 hA2 hT2
    obtain ⟨j, hj, rfl, h2, h1, hB, hT⟩ := hrel
    by_cases hlt : j < 3
    · have dj : decide ((j : Int) < 3) = true := decide_eq_true (by omega)
      have hset := h2.set j (eB (letterOf (if j < k then (j : Int) else (j : Int) + 1)))
      rw [oRow_set k j hlt] at hset
      have ck : wr.cell? ⟨g, j, none⟩ = some (eB ((oRow k j)[j]'(by rw [oRow_length]; exact hlt))) := by rw [h2.cell j, row_get, List.getElem?_eq_getElem (by rw [oRow_length]; exact hlt)]; rfl
      have fk := h2.frozen j
      have hoth := h1.other g j (eB (letterOf (if j < k then (j : Int) else (j : Int) + 1))) (by omega)
      have hBs := hB.setCell (p := ⟨g, j, none⟩) (by show w.heap.size ≤ g; omega) (eB (letterOf (if j < k then (j : Int) else (j : Int) + 1)))
      have hTs : Tab (wr.setCell ⟨g, j, none⟩ (eB (letterOf (if j < k then (j : Int) else (j : Int) + 1)))) := hT.set g j _ (by omega)
      generalize (oRow k j)[j]'(by rw [oRow_length]; exact hlt) = old at *
      by_cases hjk : j < k
      · have djk : decide ((j : Int) < (k : Int)) = true := decide_eq_true (by omega)
        rw [if_pos hjk] at hset hoth hBs hTs
        have hL := hLt (j : Int) wr hT
        clear hLt hz h2 h1
        go_wp2_with (go_at_call 37; refine hL.mono ?_; rintro e w' ⟨rfl, rfl⟩)
        refine ⟨⟨j + 1, by omega, by go_num, hset, hoth, hBs, hTs⟩, ?_⟩
        simp [intOf]
        omega
      · have djk : decide ((j : Int) < (k : Int)) = false := decide_eq_false (by omega)
        rw [if_neg hjk] at hset hoth hBs hTs
        have hL := hLt ((j : Int) + 1) wr hT
        clear hLt hz h2 h1
        go_wp2_with (go_at_call 37; refine hL.mono ?_; rintro e w' ⟨rfl, rfl⟩)
        refine ⟨⟨j + 1, by omega, by go_num, hset, hoth, hBs, hTs⟩, ?_⟩
        simp [intOf]
        omega
    · obtain rfl : j = 3 := by omega
      have sO := size3 (oth k) (oRow_length k 3)
      have zO : (Z.map eB).toArray.size = ((oth k).map eB).toArray.size := by simp [hZl, oth, oRow_length]
      have oO := one_map (oth k)
      have h2' : Row8 wr g 45 (oth k) := h2
      have hput := Row8.put h1 (oth k)
      have hBf := below_setRow hB w.heap.size ((oth k).map eB).toArray (Nat.le_refl _)
      clear h2
      generalize hO : oth k = O at *
      have HO := Lib.hid hO
      clear hO
      go_wp2_with (first
        | (refine wpList_load_row rfl 45 (.tmp 5) rfl g rfl _ (O.map eB).toArray _ _ h2' Tryd.underlying45 rfl sO ?_)
        | (refine wpList_store_row rfl 45 (.tmp 2) (.tmp 30) rfl w.heap.size (O.map eB).toArray rfl rfl _ _ h1 sO zO oO ?_))
      refine bodyPost_ret (v := aB O) (results_cell_row rfl _ _ w.heap.size _ _ _ _ rfl hput Tryd.underlying45 rfl sO) rfl ⟨by rw [HO.out], hBf⟩
end Go.Proofs.YtniiblamoimcjaaDoor
