import Derived.Laws.CopyOwn
import Derived.Test.YtcngnjkpnmpcpaaDoorClBZ
import Derived.Test.YtcngnjkpnmpcpaaDoorRXJZ
namespace Go.Proofs.YtcngnjkpnmpcpaaDoor
open Go.RowKit Go.Shelf
attribute [local go_sem] Oper.semAt_some run_store_func
def cellsI (f : Nat → Int) (N : Nat) : Array Value := ((List.range N).map fun i => eI (f i)).toArray
theorem cellsI_size (f : Nat → Int) (N : Nat) : (cellsI f N).size = N := by simp [cellsI]
theorem cellsI_get (f : Nat → Int) (N j : Nat) (h : j < N) : (cellsI f N)[j]? = some (eI (f j)) := by simp [cellsI, h]
theorem cellsI_congr (f g : Nat → Int) (N : Nat) (h : ∀ j, j < N → f j = g j) : cellsI f N = cellsI g N := by
 unfold cellsI
 congr 1
 exact List.map_congr_left fun i hi => by rw [h i (List.mem_range.1 hi)]
theorem cellsI_set (f : Nat → Int) (N j : Nat) (x : Int) : (cellsI f N).setIfInBounds j (eI x) = cellsI (fun k => if k = j then x else f k) N := by
 apply Array.ext
 · simp [cellsI]
 · intro i h1 h2
   simp only [Array.size_setIfInBounds, cellsI_size] at h1
   by_cases h : i = j
   · subst h; simp [cellsI]
   · simp [cellsI, h, Ne.symm h]
theorem info_i64 : (Tryd.prog.info? 3).map (fun i => (i.zero, i.size, i.bytes)) = some (some (.int .i64 0), 1, 8) := by kernel_rfl
theorem make_ints (N : Nat) (hN : N ≤ 1000000) (z : Int) (hz : z = N) (w : World) : (Instr.makeSlice 65 (.int .i64 z) (.int .i64 z)).run Tryd.prog w = .ok (.slice (some ⟨w.heap.size, 0, none⟩) N N) (w.alloc (.cells (cellsI (fun _ => 0) N) 3)) := by
 subst hz
 obtain ⟨i0, hi, hz0, hz1, hz2⟩ := info_parts info_i64
 have h1 := run_make (P := Tryd.prog) w 65 3 i0 (.int .i64 0) Tryd.underlying65 hi hz0 .i64 .i64 (N : Int) (N : Int) (by omega) (by omega) (by rw [hz2]; omega) (by omega)
 have h2 : madeCells (Value.int .i64 0).cells ((N : Int).toNat * i0.size) = cellsI (fun _ => 0) N := by
  rw [hz1]
  apply Array.ext
  · simp [madeCells, cellsI, Value.cells]
  · intro j _ _
    simp [madeCells, cellsI, Value.cells, Nat.mod_one]
 rw [h2] at h1
 simpa using h1
def fillF (x : Int) (m : Nat) : Nat → Int := fun j => if j < m then x else 0
def rowI (f : Nat → Int) (N : Nat) : List Value := (List.range N).map fun i => eI (f i)
theorem rowI_get (f : Nat → Int) (N j : Nat) (h : j < N) : (rowI f N)[j]? = some (eI (f j)) := by simp [rowI, h]
theorem rowI_len (f : Nat → Int) (N : Nat) : (rowI f N).length = N := by simp [rowI]
theorem fill_splice (x : Int) (m k N : Nat) (hk : m + k ≤ N) : splice (rowI (fillF x m) N) m (List.replicate k (eI x)) = rowI (fillF x (m + k)) N := by
 apply List.ext_getElem?
 intro j
 by_cases hj : j < N
 · rw [rowI_get _ _ _ hj]
   unfold splice
   by_cases h1 : j < m
   · rw [List.getElem?_append_left (by rw [List.length_take, rowI_len]; omega), List.getElem?_take_of_lt h1, rowI_get _ _ _ hj]
     unfold fillF
     rw [if_pos h1, if_pos (by omega)]
   · rw [List.getElem?_append_right (by rw [List.length_take, rowI_len]; omega), List.length_take, rowI_len, Nat.min_eq_left (by omega)]
     by_cases h2 : j < m + k
     · rw [List.getElem?_append_left (by rw [List.length_replicate]; omega), List.getElem?_replicate, if_pos (by omega)]
       unfold fillF
       rw [if_pos h2]
     · rw [List.getElem?_append_right (by rw [List.length_replicate]; omega), List.length_replicate, List.getElem?_drop, show m + k + (j - m - k) = j by omega, rowI_get _ _ _ hj]
       unfold fillF
       rw [if_neg h1, if_neg h2]
 · rw [List.getElem?_eq_none (by rw [length_splice _ _ _ (by rw [List.length_replicate, rowI_len]; exact hk), rowI_len]; omega), List.getElem?_eq_none (by rw [rowI_len]; omega)]
theorem fill_all (x : Int) (N : Nat) : rowI (fillF x N) N = rowI (fun _ => x) N := by
 unfold rowI
 exact List.map_congr_left fun i hi => by unfold fillF; rw [if_pos (List.mem_range.1 hi)]
end Go.Proofs.YtcngnjkpnmpcpaaDoor
